/- The best of all sets by a number and then by their lists, as a scan over numbers finds it; the smallest payer, the trap and the narrow group so. -/
import Derived.Test.YtlnpibboemphnaaGreatDrnFk
namespace Go.Proofs.YtlnpibboemphnaaGreat.drn
set_option linter.unusedSimpArgs false
set_option linter.unusedVariables false
theorem lex_tri : ∀ a b : List Int, a = b ∨ List.Lex (· < ·) a b ∨ List.Lex (· < ·) b a
  | [], [] => .inl rfl
  | [], _ :: _ => .inr (.inl .nil)
  | _ :: _, [] => .inr (.inr .nil)
  | x :: a, y :: b => by
    rcases Int.lt_trichotomy x y with h | rfl | h
    · exact .inr (.inl (.rel h))
    · rcases lex_tri a b with rfl | h | h
      · exact .inl rfl
      · exact .inr (.inl (.cons h))
      · exact .inr (.inr (.cons h))
    · exact .inr (.inr (.rel h))
theorem listS_inj {s t : Nat} (hs : s < 64) (ht : t < 64) (h : listS s = listS t) : s = t := by
  rw [← setS_listS hs, ← setS_listS ht, h]
/-- one set before another one -/
def Bet (f : Nat → Nat) (s t : Nat) : Prop := f s < f t ∨ (f s = f t ∧ List.Lex (· < ·) (listS s) (listS t))
theorem Bet.tri {f : Nat → Nat} {s t : Nat} (hs : s < 64) (ht : t < 64) (hne : s ≠ t) (h : ¬ Bet f s t) : Bet f t s := by
  unfold Bet at *
  rcases Nat.lt_trichotomy (f s) (f t) with h1 | h1 | h1
  · exact absurd (.inl h1) h
  · rcases lex_tri (listS s) (listS t) with h2 | h2 | h2
    · exact absurd (listS_inj hs ht h2) hne
    · exact absurd (.inr ⟨h1, h2⟩) h
    · exact .inr ⟨h1.symm, h2⟩
  · exact .inl h1
theorem Bet.trans {f : Nat → Nat} {s t u : Nat} (h1 : Bet f s t) (h2 : Bet f t u) : Bet f s u := by
  unfold Bet at *
  rcases h1 with h1 | ⟨h1, l1⟩ <;> rcases h2 with h2 | ⟨h2, l2⟩
  · exact .inl (by omega)
  · exact .inl (by omega)
  · exact .inl (by omega)
  · exact .inr ⟨by omega, lexI_tr _ _ _ l1 l2⟩
theorem Bet.irr {f : Nat → Nat} {s : Nat} (h : Bet f s s) : False := by
  rcases h with h | ⟨_, h⟩
  · omega
  · exact lexI_irr _ h
/-- the best of the sets below k, 0 if there is none -/
def IsBest (C : Nat → Bool) (f : Nat → Nat) (k b : Nat) : Prop :=
  (b = 0 ∧ ∀ s, 1 ≤ s → s < k → C s = false) ∨ (1 ≤ b ∧ b < k ∧ C b = true ∧ ∀ s, 1 ≤ s → s < k → C s = true → s ≠ b → Bet f b s)
theorem IsBest.zero (C : Nat → Bool) (f : Nat → Nat) : IsBest C f 1 0 := .inl ⟨rfl, fun s h1 h2 => by omega⟩
theorem IsBest.no {C : Nat → Bool} {f : Nat → Nat} {k b : Nat} (h : IsBest C f k b) (hc : C k = false) : IsBest C f (k + 1) b := by
  rcases h with ⟨h1, h2⟩ | ⟨h1, h2, h3, h4⟩
  · refine .inl ⟨h1, fun s a c => ?_⟩
    by_cases e : s = k
    · rw [e]; exact hc
    · exact h2 s a (by omega)
  · refine .inr ⟨h1, by omega, h3, fun s a c d e => ?_⟩
    by_cases e2 : s = k
    · rw [e2, hc] at d; cases d
    · exact h4 s a (by omega) d e
theorem IsBest.new {C : Nat → Bool} {f : Nat → Nat} {k b : Nat} (h : IsBest C f k b) (hk : 1 ≤ k) (hc : C k = true) (hb : b = 0 ∨ Bet f k b) : IsBest C f (k + 1) k := by
  refine .inr ⟨hk, by omega, hc, fun s a c d e => ?_⟩
  rcases h with ⟨h1, h2⟩ | ⟨h1, h2, h3, h4⟩
  · have := h2 s a (by omega); rw [this] at d; cases d
  · have hbk : Bet f k b := hb.resolve_left (by omega)
    by_cases e2 : s = b
    · rw [e2]; exact hbk
    · exact hbk.trans (h4 s a (by omega) d e2)
theorem IsBest.old {C : Nat → Bool} {f : Nat → Nat} {k b : Nat} (h : IsBest C f k b) (hk : k < 64) (h0 : b ≠ 0) (hb : ¬ Bet f k b) : IsBest C f (k + 1) b := by
  rcases h with ⟨h1, h2⟩ | ⟨h1, h2, h3, h4⟩
  · exact absurd h1 h0
  · refine .inr ⟨h1, by omega, h3, fun s a c d e => ?_⟩
    by_cases e2 : s = k
    · rw [e2]; exact Bet.tri hk (by omega) (by omega) hb
    · exact h4 s a (by omega) d e
theorem IsBest.first {C : Nat → Bool} {f : Nat → Nat} {n b : Nat} (hn : n ≤ 6) (h : IsBest C f (2 ^ n) b) : firstMin f ((groupsS n 0).filter C) = if b = 0 then none else some b := by
  have h64 : ∀ s, s < 2 ^ n → s < 64 := fun s hs => pow_64 hn hs
  rcases h with ⟨h1, h2⟩ | ⟨h1, h2, h3, h4⟩
  · rw [if_pos h1, firstMin_none, List.filter_eq_nil_iff]
    intro s hs
    obtain ⟨s0, s1⟩ := mem_groups.1 hs
    rw [h2 s (by omega) s1]
    decide
  · rw [if_neg (by omega)]
    cases hm : firstMin f ((groupsS n 0).filter C) with
    | none =>
      rw [firstMin_none, List.filter_eq_nil_iff] at hm
      exact absurd h3 (hm b (mem_groups.2 ⟨by omega, h2⟩))
    | some x =>
      obtain ⟨p, q, e, e1, e2⟩ := (firstMin_some _ _ _).1 hm
      have hx : x ∈ (groupsS n 0).filter C := by rw [e]; simp
      obtain ⟨x1, x2⟩ := List.mem_filter.1 hx
      obtain ⟨x3, x4⟩ := mem_groups.1 x1
      congr 1
      apply Classical.byContradiction
      intro hne
      have hbx := h4 x (by omega) x4 x2 hne
      have hb : b ∈ (groupsS n 0).filter C := List.mem_filter.2 ⟨mem_groups.2 ⟨by omega, h2⟩, h3⟩
      rw [e, List.mem_append, List.mem_cons] at hb
      rcases hb with hb | hb | hb
      · have h5 := e1 b hb
        unfold Bet at hbx
        have hs := (groupsS_sorted n 0 (by omega)).sublist (List.filter_sublist (p := C))
        rcases hbx with h6 | ⟨h6, h7⟩ <;> omega
      · exact hne hb.symm
      · have h5 := e2 b hb
        have hs := (groupsS_sorted n 0 (by omega)).sublist (List.filter_sublist (p := C))
        rw [e, List.pairwise_append] at hs
        have h8 := (List.pairwise_cons.1 hs.2.1).1 b hb
        rcases hbx with h6 | ⟨h6, h7⟩
        · omega
        · exact lexI_irr _ (lexI_tr _ _ _ h7 h8)
theorem firstMin_const {α : Type} : ∀ l : List α, firstMin (fun _ => 0) l = l.head?
  | [] => rfl
  | x :: r => by
    rw [firstMin, List.head?_cons]
    cases firstMin (fun _ => 0) r with
    | none => rfl
    | some y => simp
/-- the smallest payers, and the first of them -/
def payC (n : Nat) (cs : List Ch) (s : Nat) : Bool := !cs.any (spentC s) && !(payersS n cs).any (smaller s)
theorem payer_best {n b : Nat} {cs : List Ch} (hn : n ≤ 6) (h : IsBest (payC n cs) (fun _ => 0) (2 ^ n) b) : payerS n cs = if b = 0 then none else some b := by
  rw [← h.first hn, firstMin_const, payerS_eq]
  unfold payC
  generalize hps : payersS n cs = ps
  have hps2 := hps
  rw [payersS_eq] at hps2
  rw [← hps2]
  rw [hps2]
  generalize groupsS n 0 = gs at hps2 ⊢
  have key : ∀ (C D : Nat → Bool) (l : List Nat), (l.filter C).find? D = (l.filter fun s => C s && D s).head? := by
    intro C D l
    induction l with
    | nil => rfl
    | cons x r ih =>
      rw [List.filter_cons, List.filter_cons]
      cases hC : C x with
      | false => simp [ih]
      | true =>
        cases hD : D x with
        | true => simp [hD]
        | false => simp [hD, ih]
  have := key (fun s => !cs.any (spentC s)) (fun s => !ps.any (smaller s)) gs
  rw [hps2] at this
  exact this
end Go.Proofs.YtlnpibboemphnaaGreat.drn
