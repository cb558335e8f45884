/- Package drain: which lists Valid accepts; two sorted lists with the same members; how long a plan is. -/
import Derived.Test.YtadamjleglckpaaGreatQa1
import Derived.Deep.LoopGhost
import Derived.Deep.RegionHeld3
import Derived.Deep.Cut

namespace Go.Proofs.YtadamjleglckpaaGreat.drn
/-- two sorted lists with the same members are the same -/
theorem sorted_ext {α : Type} {R : α → α → Prop} (hirr : ∀ a, ¬ R a a) (htr : ∀ a b c, R a b → R b c → R a c) : ∀ (l1 l2 : List α), l1.Pairwise R → l2.Pairwise R → (∀ x, x ∈ l1 ↔ x ∈ l2) → l1 = l2
  | [], [], _, _, _ => rfl
  | [], b :: l2, _, _, h => by have := (h b).2 (by simp); simp at this
  | a :: l1, [], _, _, h => by have := (h a).1 (by simp); simp at this
  | a :: l1, b :: l2, h1, h2, h => by
    rw [List.pairwise_cons] at h1 h2
    have hab : a = b := by
      rcases List.mem_cons.1 ((h a).1 (by simp)) with e | ha
      · exact e
      · rcases List.mem_cons.1 ((h b).2 (by simp)) with e | hb
        · exact e.symm
        · exact absurd (htr _ _ _ (h1.1 b hb) (h2.1 a ha)) (hirr a)
    subst hab
    congr 1
    refine sorted_ext hirr htr l1 l2 h1.2 h2.2 fun x => ?_
    constructor
    · intro hx
      rcases List.mem_cons.1 ((h x).1 (by simp [hx])) with e | hy
      · subst e; exact absurd (h1.1 x hx) (hirr x)
      · exact hy
    · intro hx
      rcases List.mem_cons.1 ((h x).2 (by simp [hx])) with e | hy
      · subst e; exact absurd (h2.1 x hx) (hirr x)
      · exact hy
theorem lexI_irr : ∀ a : List Int, ¬ List.Lex (· < ·) a a
  | [], h => by cases h
  | x :: a, h => by
    cases h with
    | cons h => exact lexI_irr a h
    | rel h => exact Int.lt_irrefl _ h
theorem lexI_tr : ∀ a b c : List Int, List.Lex (· < ·) a b → List.Lex (· < ·) b c → List.Lex (· < ·) a c
  | _, _, [], _, h => by cases h
  | _, [], _ :: _, h, _ => by cases h
  | [], _ :: _, _ :: _, _, _ => List.Lex.nil
  | x :: a, y :: b, z :: c, h1, h2 => by
    cases h1 with
    | cons h1 =>
      cases h2 with
      | cons h2 => exact List.Lex.cons (lexI_tr a b c h1 h2)
      | rel h2 => exact List.Lex.rel h2
    | rel h1 =>
      cases h2 with
      | cons h2 => exact List.Lex.rel h1
      | rel h2 => exact List.Lex.rel (Int.lt_trans h1 h2)
/-- what is sorted and has all plans is the list of all plans -/
theorem plans_only {n : Nat} {cs : List Ch} (hn : 1 ≤ n) (hc : ∀ c ∈ cs, ChOk n c) {L : List (List Int)} (hs : L.Pairwise (List.Lex (· < ·))) (hm : ∀ l, l ∈ L ↔ Plan n cs l) : L = plansS n cs :=
  sorted_ext lexI_irr lexI_tr L _ hs (plansS_sorted n cs) fun l => by rw [hm, mem_plansS hn hc]

/-! Valid -/
/-- the least number that may come next -/
def nextLo : Option Int → Nat
  | none => 0
  | some x => x.toNat + 1
theorem planErr_iff (cs : List Ch) : ∀ (l : List Int) (b : Option Int) (s : Nat), (∀ x, b = some x → 0 ≤ x) →
    ((planErr cs b s l).1 = 0 ↔ Ext cs (nextLo b) s l) ∧ ((planErr cs b s l).1 = 0 → (planErr cs b s l).2 = addS cs s l)
  | [], b, s, _ => by simp [planErr, Ext, addS]
  | i :: r, b, s, hb => by
    unfold planErr
    by_cases h1 : isGal cs.length i = true
    · obtain ⟨i0, i1⟩ := (isGal_iff _ _).1 h1
      rw [if_neg (by simp [h1])]
      have hord : notUp b i = true ↔ ¬ ((nextLo b : Nat) : Int) ≤ i := by
        cases b with
        | none => simp [nextLo, notUp, i0]
        | some x =>
          have := hb x rfl
          simp only [nextLo, notUp, decide_eq_true_eq]
          omega
      by_cases h2 : notUp b i = true
      · rw [if_pos h2]
        refine ⟨⟨fun h => by simp at h, fun h => absurd h.1.1 (hord.1 h2)⟩, fun h => by simp at h⟩
      · rw [if_neg h2]
        have hlo : ((nextLo b : Nat) : Int) ≤ i := Classical.byContradiction fun h => h2 (hord.2 h)
        by_cases h3 : inS s (cs.getD i.toNat (0, 0, 0)).1 = true
        · rw [if_pos h3]
          refine ⟨⟨fun h => by simp at h, fun h => ?_⟩, fun h => by simp at h⟩
          have h4 : inS s (cs.getD i.toNat (0, 0, 0)).1 = false := h.2.1
          rw [h3] at h4
          cases h4
        · rw [if_neg h3]
          obtain ⟨k1, k2⟩ := planErr_iff cs r (some i) (s ||| 1 <<< (cs.getD i.toNat (0, 0, 0)).1.toNat) (fun x e => by injection e with e; omega)
          refine ⟨?_, fun h => k2 h⟩
          rw [k1]
          have hf : inS s (frm cs i) = false := by simpa [frm] using h3
          exact ⟨fun h => ⟨⟨hlo, i1⟩, hf, h⟩, fun h => h.2.2⟩
    · rw [if_pos (by simpa using h1)]
      refine ⟨⟨fun h => by simp at h, fun h => ?_⟩, fun h => by simp at h⟩
      exact absurd ((isGal_iff _ _).2 ⟨by have := h.1.1; omega, h.1.2⟩) h1
/-- Valid accepts just the plans -/
theorem validOf_iff {n : Nat} {cs : List Ch} (h0 : errD n cs = 0) (l : List Int) : validOf n cs l = 0 ↔ Plan n cs l := by
  obtain ⟨k1, k2⟩ := planErr_iff cs l none 0 (by simp)
  have k1' : (planErr cs none 0 l).1 = 0 ↔ Ext cs 0 0 l := k1
  unfold validOf
  rw [if_neg (by simp [h0])]
  by_cases h1 : (planErr cs none 0 l).1 = 0
  · have hx := k1'.1 h1
    rw [if_neg (by simp [h1]), k2 h1]
    by_cases h2 : addS cs 0 l = allS n
    · rw [if_neg (by simp [h2])]
      by_cases h3 : wetS n (chosenS cs l) = allS n
      · rw [if_neg (by simp [h3])]
        simp only [true_iff]
        exact ⟨hx, h2, h3⟩
      · rw [if_pos h3]
        exact ⟨fun h => by simp at h, fun h => absurd h.2.2 h3⟩
    · rw [if_pos h2]
      exact ⟨fun h => by simp at h, fun h => absurd h.2.1 h2⟩
  · rw [if_pos h1]
    exact ⟨fun h => absurd h h1, fun h => absurd (k1'.2 h.1) h1⟩

/-! how long a plan is -/
theorem sizeS_add {s g : Nat} (hg : g < 6) (hs : inS s g = false) : sizeS (s ||| 1 <<< g) = sizeS s + 1 := by
  have hb : s.testBit g = false := by simpa [inS] using hs
  have hsplit : List.range 6 = List.range g ++ g :: (List.range (5 - g)).map (g + 1 + ·) := by
    match g, hg with
    | 0, _ => decide
    | 1, _ => decide
    | 2, _ => decide
    | 3, _ => decide
    | 4, _ => decide
    | 5, _ => decide
  have ht : ∀ i, (s ||| 1 <<< g).testBit i = (s.testBit i || decide (g = i)) := by
    intro i
    rw [Nat.testBit_or, Nat.one_shiftLeft, Nat.testBit_two_pow]
  unfold sizeS
  rw [← List.countP_eq_length_filter, ← List.countP_eq_length_filter, hsplit, List.countP_append, List.countP_append, List.countP_cons, List.countP_cons]
  have m1 : (List.range g).countP (fun i => (s ||| 1 <<< g).testBit i) = (List.range g).countP (fun i => s.testBit i) :=
    List.countP_congr fun x hx => by rw [ht]; have := List.mem_range.1 hx; simp [show g ≠ x by omega]
  have m2 : ((List.range (5 - g)).map (g + 1 + ·)).countP (fun i => (s ||| 1 <<< g).testBit i) = ((List.range (5 - g)).map (g + 1 + ·)).countP (fun i => s.testBit i) :=
    List.countP_congr fun x hx => by rw [ht]; obtain ⟨y, _, rfl⟩ := List.mem_map.1 hx; simp [show g ≠ g + 1 + y by omega]
  rw [m1, m2, ht, hb]
  simp
  omega
theorem sizeS_all {n : Nat} (hn : n ≤ 6) : sizeS (allS n) = n := by
  match n, hn with
  | 0, _ => decide
  | 1, _ => decide
  | 2, _ => decide
  | 3, _ => decide
  | 4, _ => decide
  | 5, _ => decide
  | 6, _ => decide
theorem Ext.size {n : Nat} {cs : List Ch} (hn : n ≤ 6) (hc : ∀ c ∈ cs, ChOk n c) : ∀ (l : List Int) (lo s : Nat), Ext cs lo s l → sizeS (addS cs s l) = sizeS s + l.length ∧ (s < 2 ^ n → addS cs s l < 2 ^ n)
  | [], _, s, _ => ⟨rfl, fun h => h⟩
  | x :: r, lo, s, ⟨⟨h1, h2⟩, hf, hx⟩ => by
    obtain ⟨k1, k2⟩ := Ext.size hn hc r _ _ hx
    obtain ⟨⟨a, b⟩, _⟩ := getD_ok hc (i := x.toNat) (by omega)
    have a' : 0 ≤ frm cs x := a
    have b' : frm cs x < n := b
    have e : frm cs x = (((frm cs x).toNat : Nat) : Int) := by omega
    have hadd := sizeS_add (s := s) (g := (frm cs x).toNat) (by omega) (by rw [← e]; exact hf)
    refine ⟨?_, fun hs => k2 ?_⟩
    · have e2 : addS cs s (x :: r) = addS cs (s ||| 1 <<< (frm cs x).toNat) r := rfl
      rw [e2, k1, hadd, List.length_cons]
      omega
    · refine Nat.or_lt_two_pow hs ?_
      rw [Nat.one_shiftLeft]
      exact Nat.pow_lt_pow_right (by decide) (by omega)
/-- as many channels as galleries, just if one leads from each -/
theorem Ext.full {n : Nat} {cs : List Ch} (hn : n ≤ 6) (hc : ∀ c ∈ cs, ChOk n c) {l : List Int} (h : Ext cs 0 0 l) : l.length ≤ n ∧ (addS cs 0 l = allS n ↔ l.length = n) := by
  obtain ⟨k1, k2⟩ := Ext.size hn hc l 0 0 h
  have hb := k2 (Nat.two_pow_pos n)
  have z : sizeS 0 = 0 := by decide
  rw [z, Nat.zero_add] at k1
  have hall := sizeS_all hn
  have hle : addS cs 0 l ≠ allS n → sizeS (addS cs 0 l) < n := by
    intro hne
    have h64 : 2 ^ n ≤ 64 := Nat.pow_le_pow_right (n := 2) (by decide) hn
    have hp := Nat.two_pow_pos n
    have := sizeS_lt (d := addS cs 0 l) (e := allS n) (by unfold allS; omega) (fun i hi => by
      rw [allS, Nat.testBit_two_pow_sub_one]
      apply decide_eq_true
      apply Classical.byContradiction
      intro hni
      rw [Nat.testBit_lt_two_pow (Nat.lt_of_lt_of_le hb (Nat.pow_le_pow_right (by decide) (by omega)))] at hi
      cases hi) hne.symm
    omega
  by_cases he : addS cs 0 l = allS n
  · rw [he, hall] at k1
    exact ⟨by omega, ⟨fun _ => k1.symm, fun _ => he⟩⟩
  · have := hle he
    exact ⟨by omega, ⟨fun h => absurd h he, fun h => by omega⟩⟩
end Go.Proofs.YtadamjleglckpaaGreat.drn

/- Package drain: the list of all groups: what is in it, and its order. -/
namespace Go.Proofs.YtadamjleglckpaaGreat.drn
theorem range6 {g : Nat} (hg : g < 6) : List.range 6 = List.range g ++ g :: (List.range (5 - g)).map (g + 1 + ·) := by
  match g, hg with
  | 0, _ => decide
  | 1, _ => decide
  | 2, _ => decide
  | 3, _ => decide
  | 4, _ => decide
  | 5, _ => decide
theorem bit_one (i j : Nat) : (1 <<< i).testBit j = decide (i = j) := by rw [Nat.one_shiftLeft, Nat.testBit_two_pow]
theorem listS_cons {i r : Nat} (hi : i < 6) (hr : ∀ j, r.testBit j = true → i < j) : listS (1 <<< i ||| r) = (i : Int) :: listS r := by
  have hb : ∀ j, j ≤ i → r.testBit j = false := by
    intro j hj
    cases h : r.testBit j with
    | false => rfl
    | true => have := hr j h; omega
  unfold listS
  rw [range6 hi, List.filter_append, List.filter_append, List.filter_cons, List.filter_cons]
  have e1 : (List.range i).filter (fun j => (1 <<< i ||| r).testBit j) = [] := List.filter_eq_nil_iff.2 fun j hj => by
    have := List.mem_range.1 hj
    rw [Nat.testBit_or, bit_one, hb j (by omega)]
    simp; omega
  have e2 : (List.range i).filter (fun j => r.testBit j) = [] := List.filter_eq_nil_iff.2 fun j hj => by
    have := List.mem_range.1 hj
    rw [hb j (by omega)]; simp
  have e3 : ((List.range (5 - i)).map (i + 1 + ·)).filter (fun j => (1 <<< i ||| r).testBit j) = ((List.range (5 - i)).map (i + 1 + ·)).filter (fun j => r.testBit j) :=
    List.filter_congr fun j hj => by
      obtain ⟨y, _, rfl⟩ := List.mem_map.1 hj
      rw [Nat.testBit_or, bit_one]
      simp; omega
  rw [e1, e2, e3, Nat.testBit_or, bit_one, hb i (Nat.le_refl _)]
  simp
theorem listS_zero : listS 0 = [] := by decide
theorem listS_one {i : Nat} (hi : i < 6) : listS (1 <<< i) = [(i : Int)] := by
  have := listS_cons hi (r := 0) (fun j h => by simp at h)
  rwa [Nat.or_zero, listS_zero] at this
theorem bit_of_ne {s : Nat} (h : s ≠ 0) : ∃ j, s.testBit j = true := by
  apply Classical.byContradiction
  intro hn
  refine h (Nat.eq_of_testBit_eq fun i => ?_)
  rw [Nat.zero_testBit]
  cases hh : s.testBit i with
  | false => rfl
  | true => exact absurd ⟨i, hh⟩ hn
theorem mem_groupsS : ∀ (k i s : Nat), s ∈ groupsS k i ↔ s ≠ 0 ∧ ∀ j, s.testBit j = true → i ≤ j ∧ j < i + k
  | 0, i, s => by
    simp only [groupsS, List.not_mem_nil, false_iff]
    rintro ⟨h0, h⟩
    obtain ⟨j, hj⟩ := bit_of_ne h0
    have := h j hj
    omega
  | k + 1, i, s => by
    rw [groupsS, List.cons_append, List.mem_cons, List.mem_append, List.mem_map, mem_groupsS k (i + 1) s]
    constructor
    · rintro (rfl | ⟨r, hr, rfl⟩ | ⟨h0, h⟩)
      · refine ⟨by rw [Nat.one_shiftLeft]; exact Nat.ne_of_gt (Nat.two_pow_pos i), fun j hj => ?_⟩
        rw [bit_one] at hj
        have := of_decide_eq_true hj
        omega
      · obtain ⟨_, h⟩ := (mem_groupsS k (i + 1) r).1 hr
        refine ⟨fun e => ?_, fun j hj => ?_⟩
        · have := congrArg (fun x => x.testBit i) e
          simp only [Nat.testBit_or, bit_one, Nat.zero_testBit] at this
          simp at this
        · rw [Nat.testBit_or, bit_one, Bool.or_eq_true] at hj
          rcases hj with hj | hj
          · have := of_decide_eq_true hj; omega
          · have := h j hj; omega
      · exact ⟨h0, fun j hj => by have := h j hj; omega⟩
    · rintro ⟨h0, h⟩
      by_cases hi : s.testBit i = true
      · have hx : ∀ j, (s ^^^ 1 <<< i).testBit j = (s.testBit j && !decide (i = j)) := by
          intro j
          rw [Nat.testBit_xor, bit_one]
          by_cases e : i = j
          · subst e; rw [hi]; simp
          · simp [e]
        have hs : s = 1 <<< i ||| (s ^^^ 1 <<< i) := by
          apply Nat.eq_of_testBit_eq
          intro j
          rw [Nat.testBit_or, bit_one, hx]
          by_cases e : i = j
          · subst e; rw [hi]; simp
          · simp [e]
        by_cases h1 : s ^^^ 1 <<< i = 0
        · refine .inl ?_
          rw [h1, Nat.or_zero] at hs
          exact hs
        · refine .inr (.inl ⟨s ^^^ 1 <<< i, (mem_groupsS k (i + 1) _).2 ⟨h1, fun j hj => ?_⟩, hs.symm⟩)
          rw [hx, Bool.and_eq_true] at hj
          have a := h j hj.1
          have b : ¬ i = j := by simpa using hj.2
          omega
      · refine .inr (.inr ⟨h0, fun j hj => ?_⟩)
        have a := h j hj
        have b : i ≠ j := by rintro rfl; exact hi hj
        omega
theorem groupsS_list {k i s : Nat} (hk : i + k ≤ 6) (hs : s ∈ groupsS k i) : ∃ x r, listS s = x :: r ∧ (i : Int) ≤ x := by
  obtain ⟨h0, h⟩ := (mem_groupsS k i s).1 hs
  obtain ⟨j, hj⟩ := bit_of_ne h0
  have hm : (j : Int) ∈ listS s := by
    unfold listS
    refine List.mem_map.2 ⟨j, List.mem_filter.2 ⟨List.mem_range.2 (by have := h j hj; omega), hj⟩, rfl⟩
  cases hl : listS s with
  | nil => rw [hl] at hm; simp at hm
  | cons x r =>
    refine ⟨x, r, rfl, ?_⟩
    have hx : x ∈ listS s := by rw [hl]; simp
    unfold listS at hx
    obtain ⟨y, hy, rfl⟩ := List.mem_map.1 hx
    have := h y (List.mem_filter.1 hy).2
    omega
/-- groups come in ascending order of their lists (R6) -/
theorem groupsS_sorted : ∀ (k i : Nat), i + k ≤ 6 → (groupsS k i).Pairwise fun s t => List.Lex (· < ·) (listS s) (listS t)
  | 0, _, _ => by simp [groupsS]
  | k + 1, i, hk => by
    have ih := groupsS_sorted k (i + 1) (by omega)
    have hc : ∀ r ∈ groupsS k (i + 1), listS (1 <<< i ||| r) = (i : Int) :: listS r := fun r hr =>
      listS_cons (by omega) fun j hj => by have := ((mem_groupsS k (i + 1) r).1 hr).2 j hj; omega
    have ht : ∀ t ∈ groupsS k (i + 1), ∀ l, List.Lex (· < ·) ((i : Int) :: l) (listS t) := by
      intro t ht l
      obtain ⟨x, r, e, hx⟩ := groupsS_list (by omega) ht
      rw [e]
      exact List.Lex.rel (by omega)
    rw [groupsS, List.cons_append, List.pairwise_cons]
    refine ⟨?_, List.pairwise_append.2 ⟨?_, ih, ?_⟩⟩
    · intro t hm
      rw [listS_one (by omega)]
      rcases List.mem_append.1 hm with hm | hm
      · obtain ⟨r, hr, rfl⟩ := List.mem_map.1 hm
        rw [hc r hr]
        obtain ⟨x, r', e, _⟩ := groupsS_list (by omega) hr
        rw [e]
        exact List.Lex.cons List.Lex.nil
      · exact ht t hm []
    · rw [List.pairwise_map]
      refine ih.imp_of_mem fun {a b} ha hb hab => ?_
      rw [hc a ha, hc b hb]
      exact List.Lex.cons hab
    · intro a ha b hb
      obtain ⟨r, hr, rfl⟩ := List.mem_map.1 ha
      rw [hc r hr]
      exact ht b hb _
/-- a group, as a number -/
theorem mem_groups {n s : Nat} : s ∈ groupsS n 0 ↔ s ≠ 0 ∧ s < 2 ^ n := by
  rw [mem_groupsS]
  constructor
  · rintro ⟨h0, h⟩
    refine ⟨h0, Nat.lt_pow_two_of_testBit s fun i hi => ?_⟩
    cases hh : s.testBit i with
    | false => rfl
    | true => have := h i hh; omega
  · rintro ⟨h0, h⟩
    refine ⟨h0, fun j hj => ⟨Nat.zero_le _, ?_⟩⟩
    apply Classical.byContradiction
    intro hn
    rw [Nat.testBit_lt_two_pow (Nat.lt_of_lt_of_le h (Nat.pow_le_pow_right (by decide) (by omega)))] at hj
    cases hj
end Go.Proofs.YtadamjleglckpaaGreat.drn

/- Package drain: traps and stuck galleries (P2.10). -/
namespace Go.Proofs.YtadamjleglckpaaGreat.drn
/-- no channel leaves a group -/
def NoWay (cs : List Ch) (s : Nat) : Prop := ∀ c ∈ cs, leavesS s c = false
theorem leavingS_nil (cs : List Ch) (s : Nat) : (leavingS cs s).length = 0 ↔ NoWay cs s := by
  unfold leavingS
  rw [List.length_map, List.length_eq_zero_iff, List.filter_eq_nil_iff]
  constructor
  · intro h c hc
    obtain ⟨i, hi, rfl⟩ := List.getElem_of_mem hc
    have := h i (List.mem_range.2 hi)
    rw [List.getD_eq_getElem?_getD, List.getElem?_eq_getElem hi] at this
    simpa using this
  · intro h i hi
    have hi' := List.mem_range.1 hi
    rw [List.getD_eq_getElem?_getD, List.getElem?_eq_getElem hi']
    simpa using h _ (List.getElem_mem hi')
/-- no way leads out of a trap -/
theorem trap_stuck {n s : Nat} {cs : List Ch} (hs : s < 2 ^ n) (h : NoWay cs s) {g : Int} (hw : Wet n cs g) : inS s g = false := by
  induction hw with
  | mouth =>
    unfold inS
    rw [Int.toNat_natCast, Nat.testBit_lt_two_pow hs, Bool.and_false]
  | step c hc _ ih =>
    have hl := h c hc
    unfold leavesS at hl
    rw [ih] at hl
    simpa using hl
/-- the galleries that are stuck -/
def dryS (n : Nat) (cs : List Ch) : Nat := allS n - (allS n &&& wetS n cs)
theorem dryS_bit {n : Nat} {cs : List Ch} (hc : ∀ c ∈ cs, ChOk n c) (j : Nat) : (dryS n cs).testBit j = (decide (j < n) && !(wetS n cs).testBit j) := by
  have hb := wetS_bd hc
  have e1 : allS n &&& wetS n cs = wetS n cs := by
    apply Nat.eq_of_testBit_eq
    intro i
    rw [Nat.testBit_and, allS, Nat.testBit_two_pow_sub_one]
    by_cases hi : i < n
    · simp [hi]
    · rw [Nat.testBit_lt_two_pow (Nat.lt_of_lt_of_le hb (Nat.pow_le_pow_right (by decide) (by omega))), Bool.and_false]
  unfold dryS
  rw [e1, show allS n - wetS n cs = 2 ^ n - (wetS n cs + 1) by unfold allS; omega, Nat.testBit_two_pow_sub_succ hb]
/-- together they are a trap, if there are some -/
theorem dry_trap {n : Nat} {cs : List Ch} (hn : n ≤ 6) (hc : ∀ c ∈ cs, ChOk n c) : NoWay cs (dryS n cs) := by
  intro c hm
  obtain ⟨⟨a0, a1⟩, ⟨b0, b1⟩, _⟩ := hc c hm
  cases hl : leavesS (dryS n cs) c with
  | false => rfl
  | true =>
    unfold leavesS at hl
    rw [Bool.and_eq_true] at hl
    obtain ⟨h1, h2⟩ := hl
    have e1 : ((c.1.toNat : Nat) : Int) = c.1 := by omega
    have e2 : ((c.2.1.toNat : Nat) : Int) = c.2.1 := by omega
    have k1 : (wetS n cs).testBit c.1.toNat = false := by
      unfold inS at h1
      rw [dryS_bit hc] at h1
      simp at h1
      exact h1.2.2
    have k2 : Wet n cs c.2.1 := by
      by_cases hm : c.2.1 = n
      · rw [hm]; exact Wet.mouth
      · have hlt : c.2.1.toNat < n := by omega
        rw [← e2]
        refine (wetS_iff hn hc hlt).1 ?_
        unfold inS at h2 ⊢
        rw [dryS_bit hc] at h2
        rw [Int.toNat_natCast]
        simp [b0, hlt] at h2
        simp [h2]
        omega
    have k3 := (wetS_iff hn hc (g := c.1.toNat) (by omega)).2 (by rw [e1]; exact Wet.step c hm k2)
    unfold inS at k3
    rw [Int.toNat_natCast, k1] at k3
    simp at k3
/-- there is a trap just if some gallery is stuck -/
theorem trap_iff {n : Nat} {cs : List Ch} (hn : n ≤ 6) (hc : ∀ c ∈ cs, ChOk n c) : (∃ s ∈ groupsS n 0, NoWay cs s) ↔ wetS n cs ≠ allS n := by
  constructor
  · rintro ⟨s, hs, hw⟩ he
    obtain ⟨h0, hb⟩ := mem_groups.1 hs
    obtain ⟨j, hj⟩ := bit_of_ne h0
    have hjn : j < n := by
      apply Classical.byContradiction
      intro hno
      rw [Nat.testBit_lt_two_pow (Nat.lt_of_lt_of_le hb (Nat.pow_le_pow_right (by decide) (by omega)))] at hj
      cases hj
    have h1 := trap_stuck hb hw ((wetS_all hn hc).1 he j hjn)
    unfold inS at h1
    rw [Int.toNat_natCast, hj] at h1
    simp at h1
  · intro he
    refine ⟨dryS n cs, mem_groups.2 ⟨fun h0 => he ?_, ?_⟩, dry_trap hn hc⟩
    · refine (allS_iff (wetS_bd hc)).2 fun g hg => ?_
      have h1 := dryS_bit hc g
      rw [h0, Nat.zero_testBit] at h1
      unfold inS
      rw [Int.toNat_natCast]
      simp [hg] at h1
      simp [h1]
    · have := Nat.two_pow_pos n
      unfold dryS allS
      omega
end Go.Proofs.YtadamjleglckpaaGreat.drn

/- Package drain: there is a plan just if no gallery is stuck (P2.10). -/
namespace Go.Proofs.YtadamjleglckpaaGreat.drn
theorem Wet.mono {n : Nat} {A B : List Ch} (h : ∀ c ∈ A, c ∈ B) {g : Int} (hw : Wet n A g) : Wet n B g := by
  induction hw with
  | mouth => exact Wet.mouth
  | step c hc _ ih => exact Wet.step c (h c hc) ih
/-- the channel with a number -/
def chAt (cs : List Ch) (i : Nat) : Ch := cs.getD i (0, 0, 0)
/-- the numbers with a property, as a list -/
def selP (cs : List Ch) (P : Nat → Bool) : List Int := ((List.range cs.length).filter P).map fun i : Nat => (i : Int)
theorem mem_selP {cs : List Ch} {P : Nat → Bool} {c : Ch} : c ∈ chosenS cs (selP cs P) ↔ ∃ i, i < cs.length ∧ P i = true ∧ c = chAt cs i := by
  unfold chosenS selP
  rw [List.map_map, List.mem_map]
  constructor
  · rintro ⟨i, hi, rfl⟩
    obtain ⟨h1, h2⟩ := List.mem_filter.1 hi
    exact ⟨i, List.mem_range.1 h1, h2, by simp [chAt]⟩
  · rintro ⟨i, h1, h2, rfl⟩
    exact ⟨i, List.mem_filter.2 ⟨List.mem_range.2 h1, h2⟩, by simp [chAt]⟩
/-- some channels, one from each gallery of a set, by which all of them drain -/
def Drained (n : Nat) (cs : List Ch) (d : Nat) : Prop :=
  ∃ P : Nat → Bool, (∀ i, i < cs.length → P i = true → inS d (chAt cs i).1 = true) ∧
    (∀ i j, i < cs.length → j < cs.length → P i = true → P j = true → (chAt cs i).1 = (chAt cs j).1 → i = j) ∧
    ∀ g : Nat, inS d g = true → (∃ i, i < cs.length ∧ P i = true ∧ (chAt cs i).1 = g) ∧ Wet n (chosenS cs (selP cs P)) g
theorem drained_step {n : Nat} {cs : List Ch} (hc : ∀ c ∈ cs, ChOk n c) : ∀ (r : List Ch) (d : Nat), (∀ c ∈ r, c ∈ cs) → Drained n cs d → Drained n cs (wetStep n r d)
  | [], d, _, h => h
  | c :: r, d, hr, h => by
    unfold wetStep
    rw [List.foldl_cons]
    refine drained_step hc r _ (fun x hx => hr x (by simp [hx])) ?_
    split
    · rename_i hw
      have hm := hr c (by simp)
      obtain ⟨⟨a0, a1⟩, ⟨b0, b1⟩, _⟩ := hc c hm
      have e1 : ((c.1.toNat : Nat) : Int) = c.1 := by omega
      have e2 : ((c.2.1.toNat : Nat) : Int) = c.2.1 := by omega
      cases hin : inS d c.1 with
      | true =>
        have hd : d ||| 1 <<< c.1.toNat = d := by
          apply Nat.eq_of_testBit_eq
          intro j
          rw [Nat.testBit_or, bit_one]
          by_cases e : c.1.toNat = j
          · subst e
            unfold inS at hin
            rw [Bool.and_eq_true] at hin
            rw [hin.2]; rfl
          · simp [e]
        rw [hd]; exact h
      | false =>
        obtain ⟨P, p1, p2, p3⟩ := h
        obtain ⟨i, hi, rfl⟩ := List.getElem_of_mem hm
        have hci : chAt cs i = cs[i] := by rw [chAt, List.getD_eq_getElem?_getD, List.getElem?_eq_getElem hi]; rfl
        refine ⟨fun j => P j || decide (j = i), ?_, ?_, ?_⟩
        · intro j hj hp
          rw [inS_or, Bool.or_eq_true]
          rcases Bool.or_eq_true _ _ ▸ hp with hp | hp
          · exact .inl (p1 j hj hp)
          · have e := of_decide_eq_true hp
            subst e
            rw [hci, ← e1, inS_one]
            exact .inr (by simp; omega)
        · intro j k hj hk hpj hpk he
          rcases Bool.or_eq_true _ _ ▸ hpj with h1 | h1 <;> rcases Bool.or_eq_true _ _ ▸ hpk with h2 | h2
          · exact p2 j k hj hk h1 h2 he
          · have e := of_decide_eq_true h2
            subst e
            have := p1 j hj h1
            rw [he, hci, hin] at this
            cases this
          · have e := of_decide_eq_true h1
            subst e
            have := p1 k hk h2
            rw [← he, hci, hin] at this
            cases this
          · rw [of_decide_eq_true h1, of_decide_eq_true h2]
        · have hsub : ∀ x ∈ chosenS cs (selP cs P), x ∈ chosenS cs (selP cs fun j => P j || decide (j = i)) := by
            intro x hx
            obtain ⟨j, h1, h2, h3⟩ := mem_selP.1 hx
            exact mem_selP.2 ⟨j, h1, by simp [h2], h3⟩
          intro g hg
          rw [inS_or, Bool.or_eq_true] at hg
          rcases hg with hg | hg
          · obtain ⟨⟨j, h1, h2, h3⟩, h4⟩ := p3 g hg
            exact ⟨⟨j, h1, by simp [h2], h3⟩, h4.mono hsub⟩
          · rw [inS_one] at hg
            have eg := of_decide_eq_true hg
            have egi : (g : Int) = cs[i].1 := by omega
            refine ⟨⟨i, hi, by simp, by rw [hci, egi]⟩, ?_⟩
            rw [egi, ← hci]
            refine Wet.step (chAt cs i) (mem_selP.2 ⟨i, hi, by simp, rfl⟩) ?_
            rw [hci]
            simp only [Bool.or_eq_true, beq_iff_eq] at hw
            rcases hw with hw | hw
            · rw [hw]; exact Wet.mouth
            · rw [← e2] at hw ⊢
              exact (p3 _ hw).2.mono hsub
    · exact h
theorem drained_to {n : Nat} {cs : List Ch} (hc : ∀ c ∈ cs, ChOk n c) : ∀ k, Drained n cs (wetTo n cs k 0)
  | 0 => ⟨fun _ => false, by simp, by simp, fun g hg => by simp [wetTo, inS] at hg⟩
  | k + 1 => by rw [wetTo_step]; exact drained_step hc cs _ (fun _ h => h) (drained_to hc k)
theorem ext_of (cs : List Ch) : ∀ (L : List Nat) (lo s : Nat), L.Pairwise (· < ·) → (∀ i ∈ L, lo ≤ i ∧ i < cs.length ∧ 0 ≤ (chAt cs i).1 ∧ inS s (chAt cs i).1 = false) →
    (L.Pairwise fun i j => (chAt cs i).1 ≠ (chAt cs j).1) → Ext cs lo s (L.map fun i : Nat => (i : Int)) ∧ ∀ g : Nat, inS (addS cs s (L.map fun i : Nat => (i : Int))) g = true ↔ inS s g = true ∨ ∃ i ∈ L, (chAt cs i).1 = g
  | [], lo, s, _, _, _ => ⟨trivial, fun g => by simp [addS]⟩
  | i :: L, lo, s, h1, h2, h3 => by
    rw [List.pairwise_cons] at h1 h3
    obtain ⟨k1, k2, k3, k4⟩ := h2 i (by simp)
    have hf : frm cs (i : Int) = (chAt cs i).1 := by simp [frm, chAt]
    have ef : (((chAt cs i).1.toNat : Nat) : Int) = (chAt cs i).1 := by omega
    obtain ⟨m1, m2⟩ := ext_of cs L (i + 1) (s ||| 1 <<< (chAt cs i).1.toNat) h1.2 (fun j hj => by
      obtain ⟨q1, q2, q3, q4⟩ := h2 j (by simp [hj])
      refine ⟨h1.1 j hj, q2, q3, ?_⟩
      have ej : (((chAt cs j).1.toNat : Nat) : Int) = (chAt cs j).1 := by omega
      have hne := h3.1 j hj
      rw [inS_or, q4, ← ej, inS_one, Bool.false_or]
      exact decide_eq_false (by omega)) h3.2
    refine ⟨⟨⟨by show (lo : Int) ≤ (i : Int); omega, by show (i : Int) < _; omega⟩, by rw [hf]; exact k4, ?_⟩, fun g => ?_⟩
    · rw [hf, Int.toNat_natCast]; exact m1
    · have e : addS cs s ((i :: L).map fun i : Nat => (i : Int)) = addS cs (s ||| 1 <<< (chAt cs i).1.toNat) (L.map fun i : Nat => (i : Int)) := by
        rw [List.map_cons]
        show addS cs (s ||| 1 <<< (frm cs (i : Int)).toNat) _ = _
        rw [hf]
      rw [e, m2, inS_or, Bool.or_eq_true, inS_one, decide_eq_true_eq]
      constructor
      · rintro ((h | h) | ⟨j, hj, h⟩)
        · exact .inl h
        · exact .inr ⟨i, by simp, by omega⟩
        · exact .inr ⟨j, by simp [hj], h⟩
      · rintro (h | ⟨j, hj, h⟩)
        · exact .inl (.inl h)
        · rcases List.mem_cons.1 hj with rfl | hj
          · exact .inl (.inr (by omega))
          · exact .inr ⟨j, hj, h⟩
/-- there is a plan just if no gallery is stuck -/
theorem plan_iff {n : Nat} {cs : List Ch} (hn : n ≤ 6) (hc : ∀ c ∈ cs, ChOk n c) : (∃ l, Plan n cs l) ↔ wetS n cs = allS n := by
  have hsub : ∀ l : List Int, (∀ i ∈ l, 0 ≤ i ∧ i < cs.length) → ∀ c ∈ chosenS cs l, c ∈ cs := by
    intro l hl c hcm
    obtain ⟨i, hi, rfl⟩ := List.mem_map.1 hcm
    obtain ⟨i0, i1⟩ := hl i hi
    rw [List.getD_eq_getElem?_getD, List.getElem?_eq_getElem (show i.toNat < cs.length by omega)]
    exact List.getElem_mem _
  have hex : ∀ (l : List Int) (lo s : Nat), Ext cs lo s l → ∀ i ∈ l, 0 ≤ i ∧ i < cs.length := by
    intro l
    induction l with
    | nil => simp
    | cons x r ih =>
      rintro lo s ⟨⟨h1, h2⟩, _, hx⟩ i hi
      rcases List.mem_cons.1 hi with rfl | hi
      · exact ⟨by omega, h2⟩
      · exact ih _ _ hx i hi
  constructor
  · rintro ⟨l, h1, h2, h3⟩
    have hs := hsub l (hex l 0 0 h1)
    have hc2 : ∀ c ∈ chosenS cs l, ChOk n c := fun c hm => hc c (hs c hm)
    exact (wetS_all hn hc).2 fun g hg => ((wetS_all hn hc2).1 h3 g hg).mono hs
  · intro hw
    obtain ⟨P, p1, p2, p3⟩ := drained_to hc 7
    have hw' : wetTo n cs 7 0 = allS n := hw
    rw [hw'] at p1 p3
    have hall : ∀ g : Nat, g < n → inS (allS n) g = true := (allS_iff (s := allS n) (by have := Nat.two_pow_pos n; unfold allS; omega)).1 rfl
    have hok : ∀ i, i < cs.length → ChOk n (chAt cs i) := fun i hi => getD_ok hc hi
    obtain ⟨m1, m2⟩ := ext_of cs ((List.range cs.length).filter P) 0 0 (List.Pairwise.sublist List.filter_sublist List.pairwise_lt_range) (fun i hi => by
      have hi' := List.mem_range.1 (List.mem_filter.1 hi).1
      exact ⟨Nat.zero_le _, hi', (hok i hi').1.1, by simp [inS]⟩) (by
      refine List.Pairwise.imp_of_mem ?_ (List.Pairwise.sublist List.filter_sublist (List.pairwise_lt_range (n := cs.length)))
      intro a b ha hb hlt he
      obtain ⟨ha1, ha2⟩ := List.mem_filter.1 ha
      obtain ⟨hb1, hb2⟩ := List.mem_filter.1 hb
      have := p2 a b (List.mem_range.1 ha1) (List.mem_range.1 hb1) ha2 hb2 he
      omega)
    have hs := hsub _ (hex _ 0 0 m1)
    have hc2 : ∀ c ∈ chosenS cs (selP cs P), ChOk n c := fun c hm => hc c (hs c hm)
    refine ⟨selP cs P, m1, ?_, (wetS_all hn hc2).2 fun g hg => (p3 g (hall g hg)).2⟩
    refine (allS_iff ((Ext.size hn hc _ 0 0 m1).2 (Nat.two_pow_pos n))).2 fun g hg => (m2 g).2 (.inr ?_)
    obtain ⟨i, h1, h2, h3⟩ := (p3 g (hall g hg)).1
    exact ⟨i, List.mem_filter.2 ⟨List.mem_range.2 h1, h2⟩, h3⟩
end Go.Proofs.YtadamjleglckpaaGreat.drn

/- Package drain, the walks: leaving, drained. -/
namespace Go.Proofs.YtadamjleglckpaaGreat.drn
open Go.RowKit
set_option linter.unusedSimpArgs false
set_option linter.unusedVariables false

/-- channels of a hill of n galleries -/
structure Chs (n : Nat) (cs : List Ch) : Prop where
  n1 : 1 ≤ n
  n6 : n ≤ 6
  many : cs.length ≤ 14
  ok : ∀ c ∈ cs, ChOk n c

theorem pow_64 {n s : Nat} (hn : n ≤ 6) (hs : s < 2 ^ n) : s < 64 := Nat.lt_of_lt_of_le hs (Nat.pow_le_pow_right (by decide) hn)

set_option maxRecDepth 100000 in
theorem leaving_any (n s : Nat) (q : Option Addr) (cap : Nat) (cs : List Ch) (w : World) (hc : Chs n cs) (hs : s < 2 ^ n) (hr : RowV w q (flatC n cs)) :
    Calls Tryz.prog 59 #[.slice q cs.length cap, .int .u64 s] w (RetV w 3 1 (leavingS cs s).length (flatI (leavingS cs s))) := by
  have HS := Lib.hid (leavingS_eq cs s)
  have hl := hc.many
  go_enter Tryz.func59, Tryz.ntmps59
  go_wp2
  go_loopw [5, 10] (fun v i wr => ∃ k : Nat, k ≤ cs.length ∧ i = .int .i64 k ∧ wr.ownsRow w.heap.size 3 1 v (rangeF (fun i => leavesS s (cs.getD i (0, 0, 0))) k).length (flatI (rangeF (fun i => leavesS s (cs.getD i (0, 0, 0))) k)) ∧ Below w.heap.size w wr) (fun _ i _ => cs.length - (intOf i).toNat)
  case atStart => exact ⟨0, Nat.zero_le _, rfl, World.ownsRow_nil _ _ _ _, Below.refl _ _⟩
  case round =>
    obtain ⟨k, hk, rfl, hown, hbel⟩ := hrel
    by_cases hlt : k < cs.length
    · obtain ⟨b, off, rfl, hb, h1, h2, h3⟩ := rowC_at hr hlt (Nat.le_refl _) hbel
      have hst := rangeF_succ (fun i => leavesS s (cs.getD i (0, 0, 0))) k
      have hle := rangeF_len (fun i => leavesS s (cs.getD i (0, 0, 0))) k
      have hok := getD_ok hc.ok hlt
      generalize rangeF (fun i => leavesS s (cs.getD i (0, 0, 0))) k = xs at hown hst hle
      generalize cs.getD k (0, 0, 0) = c at h1 h2 h3 hst hok
      have HST := Lib.hid hst
      have HO := Lib.hid hown
      have HOK := Lib.hid hok
      have hn6 := hc.n6
      have hlv := fun W => leaves_any n s c W hn6 hok hs
      obtain ⟨T, hT⟩ : ∃ T, plV n c.2.1 = .iface T (.int .i64 c.2.1) := ⟨_, rfl⟩
      rw [hT] at h2
      simp only [hT] at hlv
      have HLV := Lib.hid hlv
      clear hst hown hok hlv hT
      go_wp2_with (first
        | (go_at_call 106; refine (HLV.out _).mono ?_; rintro e w1 ⟨rfl, hb1⟩; have hac : Below wr.heap.size wr w1 := ((Below.refl _ _).alloc (Nat.le_refl _) _).on hb1; have HO1 := Lib.hid (owns_below HO.out (Nat.le_refl _) hac); have hz1 := hac.size)
        | (at_builtin; refine app_int _ rfl (.tmp 18) (.tmp 20) rfl w.heap.size _ xs (k : Int) rfl (HO1.out.alloc _) w1.heap.size 1 rfl (by simp) (by omega) (by have := hbel.size; simp; omega) ?_; intro v2 w2 hown2 hgr2 hbk2; have hb2 : Below w.heap.size w w2 := (hbel.on hac).trans (((Below.refl _ _).alloc (by have := hbel.size; omega) _).trans (grown_below (HO1.out.alloc _) (by have := hbel.size; simp; omega) hgr2))))
      · have hbit : leavesS s c = true := by assumption
        go_roundw
        case rel => exact ⟨k + 1, hlt, by go_num, by rw [HST.out, if_pos hbit]; exact hown2, hb2⟩
        case measure => simp [intOf]; omega
      · have hbit : leavesS s c = false := by assumption
        go_roundw
        case rel => exact ⟨k + 1, hlt, by go_num, by rw [HST.out, if_neg (by rw [hbit]; decide), List.append_nil]; exact HO1.out, hbel.on hac⟩
        case measure => simp [intOf]; omega
    · obtain rfl : k = cs.length := by omega
      go_wp2
      go_ret
      exact ⟨_, rfl, by rw [HS.out]; exact hown, hbel⟩

/-- water gets from a place to the mouth -/
theorem drains_any (n s : Nat) (g : Int) (w : World) (hn : n ≤ 6) (h0 : 0 ≤ g) (h1 : g ≤ n) (hs : s < 64) :
    Calls Tryz.prog 103 #[plV n g, .int .u64 s] w fun e w' => e = .returned (.bool (g == (n : Int) || inS s g)) ∧ w = w' := by
  obtain ⟨g, rfl⟩ : ∃ k : Nat, g = k := ⟨g.toNat, by omega⟩
  by_cases hg : g = n
  · subst hg
    have e : plV g g = .iface 151 (.int .i64 g) := by simp [plV]
    rw [e]
    refine (drainsM_any g s w).mono ?_
    rintro e w' ⟨rfl, rfl⟩
    exact ⟨by simp, rfl⟩
  · have e : plV n g = .iface 124 (.int .i64 g) := by simp only [plV]; rw [if_neg (by omega)]
    rw [e]
    refine (drainsG_any g s w (by omega) hs).mono ?_
    rintro e w' ⟨rfl, rfl⟩
    have : ((g : Int) == (n : Int)) = false := beq_eq_false_iff_ne.2 (by omega)
    exact ⟨by rw [this]; simp [inS], rfl⟩
def wetF (n : Nat) (d : Nat) (c : Ch) : Nat := if c.2.1 == (n : Int) || inS d c.2.1 then d ||| oneS c.1.toNat else d
theorem wetStep_eq (n : Nat) (cs : List Ch) (d : Nat) : wetStep n cs d = cs.foldl (wetF n) d := rfl

set_option maxRecDepth 100000 in
theorem drained_any (n : Nat) (q : Option Addr) (cap : Nat) (cs : List Ch) (w : World) (hc : Chs n cs) (hr : RowV w q (flatC n cs)) :
    Calls Tryz.prog 52 #[.slice q cs.length cap] w fun e w' => e = .returned (.int .u64 (wetS n cs : Nat)) ∧ Below w.heap.size w w' := by
  have hl := hc.many
  have hn6 := hc.n6
  have HC := Lib.hid hc
  clear hc
  go_enter Tryz.func52, Tryz.ntmps52
  go_wp2
  go_loopg [3] 7 (fun gg s wr => ∃ r : Nat, gg = 7 - r ∧ r ≤ 6 ∧ s = .int .u64 (wetTo n cs r 0 : Nat) ∧ (∀ j, j < r → wetStep n cs (wetTo n cs j 0) ≠ wetTo n cs j 0) ∧ Below w.heap.size w wr)
  case atStart => exact ⟨0, rfl, Nat.zero_le _, rfl, fun j hj => absurd hj (Nat.not_lt_zero j), Below.refl _ _⟩
  case round =>
    obtain ⟨r, hgg, hr6, rfl, hno, hbel⟩ := hrel
    have HNO := Lib.hid hno
    have hd : wetTo n cs r 0 < 2 ^ n := wetTo_bd HC.out.ok r
    obtain ⟨d, hde⟩ : ∃ d, wetTo n cs r 0 = d := ⟨_, rfl⟩
    have hstep := wetTo_step n cs r 0
    have HSTEP := Lib.hid hstep
    have hrest := fun h => wetS_rest (n := n) (cs := cs) (k := r) (by omega) h
    have HREST := Lib.hid hrest
    have hGG := Lib.hid hgg
    clear hno hstep hrest hgg
    rw [hde] at hd HSTEP HREST ⊢
    have HDE := Lib.hid hde
    clear hde
    go_wp2
    go_loopw [3, 10] (fun s i w2 => ∃ k : Nat, k ≤ cs.length ∧ i = .int .i64 k ∧ s = .int .u64 ((cs.take k).foldl (wetF n) d : Nat) ∧ Below w.heap.size w w2) (fun _ i _ => cs.length - (intOf i).toNat)
    case atStart => exact ⟨0, Nat.zero_le _, rfl, rfl, hbel⟩
    case round =>
      obtain ⟨k, hk, rfl, rfl, hbel2⟩ := hrel
      by_cases hlt : k < cs.length
      · obtain ⟨b, off, rfl, hb, h1, h2, h3⟩ := rowC_at hr hlt (Nat.le_refl _) hbel2
        have hst := foldl_take (wetF n) d cs k (0, 0, 0) hlt
        have hok := getD_ok HC.out.ok hlt
        have hdk : (cs.take k).foldl (wetF n) d < 2 ^ n := wetStep_bd n (cs.take k) d (fun c hm => HC.out.ok c (List.mem_of_mem_take hm)) hd
        generalize cs.getD k (0, 0, 0) = c at h1 h2 h3 hst hok
        obtain ⟨x, y, z⟩ := c
        obtain ⟨⟨x0, x1⟩, ⟨y0, y1⟩, _, _, _⟩ := hok
        dsimp only at *
        obtain ⟨x, rfl⟩ : ∃ m : Nat, x = m := ⟨x.toNat, by omega⟩
        have HST := Lib.hid hst
        clear hst
        generalize (cs.take k).foldl (wetF n) d = d2 at HST hdk ⊢
        have hd64 := pow_64 hn6 hdk
        have hdr := fun W => drains_any n d2 y W hn6 y0 y1 hd64
        obtain ⟨T, hT⟩ : ∃ T, plV n y = .iface T (.int .i64 y) := ⟨_, rfl⟩
        obtain ⟨wt, hwt⟩ : ∃ b, (y == (n : Int) || inS d2 y) = b := ⟨_, rfl⟩
        rw [hT] at h2
        simp only [hT, hwt] at hdr
        have HDR := Lib.hid hdr
        have HWT := Lib.hid hwt
        clear hdr hT hwt
        have hx6 : x < 6 := by omega
        have ho := oneS_lt hx6
        have hor := or_u d2 (oneS x) (by omega) (by omega)
        have HOR := Lib.hid hor
        clear hor
        go_wp2_with (first
          | (go_at_call 103; refine (HDR.out _).mono ?_; rintro e w1 ⟨rfl, rfl⟩)
          | (go_at_call 90; refine (alone_any x _ hx6).mono ?_; rintro e w1 ⟨rfl, rfl⟩))
        · have hin : wt = true := by assumption
          subst hin
          go_roundw
          case rel => exact ⟨k + 1, hlt, by go_num, by rw [HST.out, wetF, if_pos HWT.out]; exact congrArg (Value.int .u64) HOR.out, hbel2.alloc hbel2.size _⟩
          case measure => simp [intOf]; omega
        · have hin : wt = false := by assumption
          subst hin
          go_roundw
          case rel => exact ⟨k + 1, hlt, by go_num, by rw [HST.out, wetF, if_neg (by dsimp only; rw [HWT.out]; decide)], hbel2.alloc hbel2.size _⟩
          case measure => simp [intOf]; omega
      · obtain rfl : k = cs.length := by omega
        have hfin : (cs.take cs.length).foldl (wetF n) d = wetStep n cs d := by rw [List.take_length, wetStep_eq]
        rw [hfin]
        by_cases hfix : wetStep n cs d = d
        · have hw := HREST.out hfix
          rw [hfix]
          have HW := Lib.hid hw
          clear hw hfix
          go_wp2
          go_ret
          exact ⟨by rw [HW.out]; rfl, hbel2⟩
        · have hne : ((wetStep n cs d : Nat) : Int) ≠ (d : Int) := by omega
          have hneb : (((wetStep n cs d : Nat) : Int) == (d : Int)) = false := beq_eq_false_iff_ne.2 hne
          have hr7 : r + 1 ≤ 6 := wet_rounds HC.out.n6 HC.out.ok (k := r + 1) (by
            intro j hj
            rcases Nat.lt_succ_iff_lt_or_eq.1 hj with h | h
            · exact HNO.out j h
            · subst h; rw [HDE.out]; exact hfix)
          have HFIX := Lib.hid hfix
          clear hfix hne
          go_wp2
          go_roundg (7 - (r + 1))
          case measure => rw [hGG.out]; omega
          case rel =>
            refine ⟨r + 1, rfl, hr7, by rw [HSTEP.out], fun j hj => ?_, hbel2⟩
            rcases Nat.lt_succ_iff_lt_or_eq.1 hj with h | h
            · exact HNO.out j h
            · subst h; rw [HDE.out]; exact HFIX.out
end Go.Proofs.YtadamjleglckpaaGreat.drn

/- Package drain, the walks: channelsOf. -/
namespace Go.Proofs.YtadamjleglckpaaGreat.drn
open Go.RowKit
set_option linter.unusedSimpArgs false
set_option linter.unusedVariables false

theorem infoC : (Tryz.prog.info? 128).map (fun i => (i.zero, i.size, i.bytes)) = some (some (.agg #[.int .i64 0, .nilIface, .int .i64 0]), 3, 32) := by kernel_rfl
theorem flatC_take_succ (n : Nat) (cs : List Ch) (k : Nat) (h : k < cs.length) : flatC n (cs.take (k + 1)) = flatC n (cs.take k) ++ [.int .i64 (cs.getD k (0, 0, 0)).1, plV n (cs.getD k (0, 0, 0)).2.1, .int .i64 (cs.getD k (0, 0, 0)).2.2] := by
  rw [getD_take cs k (0, 0, 0) h, flatC_snoc]

set_option maxRecDepth 100000 in
set_option maxHeartbeats 1000000 in
theorem channelsOf_any (n : Nat) (q : Option Addr) (cap : Nat) (cs : List Ch) (w : World) (hc : Chs n cs) (hr : RowV w q (flatT cs)) :
    Calls Tryz.prog 53 #[hillV n q cs.length cap] w (RetV w 128 3 cs.length (flatC n cs)) := by
  unfold hillV
  have hb0 : Below w.heap.size w (w.alloc (.cells #[.int .i64 n, .slice q cs.length cap] 24)) := (Below.refl _ _).alloc (Nat.le_refl _) _
  have hr0 := hr.below (Nat.le_refl _) hb0
  have hl := hc.many
  have HB0 := Lib.hid hb0
  clear hb0
  go_enter Tryz.func53, Tryz.ntmps53
  go_wp2
  have hb0 := HB0.out
  obtain ⟨W0, hW0⟩ : ∃ W0, w.alloc (.cells #[.int .i64 n, .slice q cs.length cap] 24) = W0 := ⟨_, rfl⟩
  have hz0 : w.heap.size < W0.heap.size := by rw [← hW0]; simp
  have hc0 : W0.cell? ⟨w.heap.size, 0, none⟩ = some (.int .i64 n) ∧ W0.cell? ⟨w.heap.size, 1, none⟩ = some (.slice q cs.length cap) := by rw [← hW0]; simp
  obtain ⟨c0, c1⟩ := hc0
  rw [hW0] at hr0 hb0 ⊢
  clear hW0 HB0
  go_loopw [3, 9] (fun v i wr => ∃ k : Nat, k ≤ cs.length ∧ i = .int .i64 k ∧ wr.ownsRow W0.heap.size 128 3 v k (flatC n (cs.take k)) ∧ Below W0.heap.size W0 wr) (fun _ i _ => cs.length - (intOf i).toNat)
  case atStart => exact ⟨0, Nat.zero_le _, rfl, World.ownsRow_nil _ _ _ _, Below.refl _ _⟩
  case round =>
    obtain ⟨k, hk, rfl, hown, hbel⟩ := hrel
    by_cases hlt : k < cs.length
    · obtain ⟨b, off, rfl, hb, h1, h2, h3⟩ := rowT_at hr0 hlt (Nat.le_refl _) hbel
      have hst := flatC_take_succ n cs k hlt
      generalize cs.getD k (0, 0, 0) = c at h1 h2 h3 hst
      obtain ⟨x, y, z⟩ := c
      dsimp only at h1 h2 h3 hst
      obtain ⟨T, hT⟩ : ∃ T, plV n y = .iface T (.int .i64 y) := ⟨_, rfl⟩
      have hpl : ∀ W, Calls Tryz.prog 94 #[.agg #[.int .i64 n, .slice (some ⟨b, off, none⟩) cs.length cap], .int .i64 y] W fun e w' => e = .returned (.iface T (.int .i64 y)) ∧ Below W.heap.size W w' := fun W => by
        rw [← hT]; exact placeOf_any n y (some ⟨b, off, none⟩) cs.length cap W
      rw [hT] at hst
      have d0 : wr.cell? ⟨w.heap.size, 0, none⟩ = some (.int .i64 n) := (hbel.cell (p := ⟨w.heap.size, 0, none⟩) hz0).trans c0
      have d1 : wr.cell? ⟨w.heap.size, 1, none⟩ = some (.slice (some ⟨b, off, none⟩) cs.length cap) := (hbel.cell (p := ⟨w.heap.size, 1, none⟩) hz0).trans c1
      have hz1 : w.heap.size < wr.heap.size := Nat.lt_of_lt_of_le hz0 hbel.size
      have hsz := hbel.size
      have HST := Lib.hid hst
      have HPL := Lib.hid hpl
      have HO := Lib.hid hown
      have HT := Lib.hid hT
      clear hst hpl hown hT c0 c1
      go_upto_region 5 with fail
      have hne : w.heap.size ≠ wr.heap.size := by omega
      have A0 : Below wr.heap.size wr (wr.alloc (.cells #[.int .i64 x, .int .i64 y, .int .i64 z] 51)) := (Below.refl _ _).alloc (Nat.le_refl _) _
      have e0 := (A0.cell (p := ⟨w.heap.size, 0, none⟩) hz1).trans d0
      have e1 := (A0.cell (p := ⟨w.heap.size, 1, none⟩) hz1).trans d1
      have e2 : (wr.alloc (.cells #[.int .i64 x, .int .i64 y, .int .i64 z] 51)).cell? ⟨wr.heap.size, 0, none⟩ = some (.int .i64 x) := by simp
      have e3 : (wr.alloc (.cells #[.int .i64 x, .int .i64 y, .int .i64 z] 51)).cell? ⟨wr.heap.size, 1, none⟩ = some (.int .i64 y) := by simp
      have e4 : (wr.alloc (.cells #[.int .i64 x, .int .i64 y, .int .i64 z] 51)).cell? ⟨wr.heap.size, 2, none⟩ = some (.int .i64 z) := by simp
      have hva : some w.heap.size ≠ u3.ownBlock := fun e => by have := (HO.out.lt _ e.symm).1; omega
      have hvb : some wr.heap.size ≠ u3.ownBlock := fun e => by have := (HO.out.lt _ e.symm).2; omega
      have HO1 := Lib.hid (owns_below HO.out (Nat.le_refl _) A0)
      obtain ⟨W1, hW1⟩ : ∃ W1, wr.alloc (.cells #[.int .i64 x, .int .i64 y, .int .i64 z] 51) = W1 := ⟨_, rfl⟩
      have hz2 : w.heap.size < W1.heap.size := by rw [← hW1]; simp; omega
      have hz3 : wr.heap.size < W1.heap.size := by rw [← hW1]; simp
      rw [hW1] at A0 e0 e1 e2 e3 e4 HO1 ⊢
      have HA0 := Lib.hid A0
      clear hW1 d0 d1 h1 h2 h3 A0
      go_region_held3 (fun W => W.cell? ⟨w.heap.size, 0, none⟩ = some (.int .i64 n) ∧ W.cell? ⟨w.heap.size, 1, none⟩ = some (.slice (some ⟨b, off, none⟩) cs.length cap) ∧ W.cell? ⟨wr.heap.size, 0, none⟩ = some (.int .i64 x) ∧ W.cell? ⟨wr.heap.size, 1, none⟩ = some (.int .i64 y) ∧ W.cell? ⟨wr.heap.size, 2, none⟩ = some (.int .i64 z)) (first | exact ⟨e0, e1, e2, e3, e4⟩ | exact ⟨j0, j1, j2, j3, j4⟩ | exact ⟨l0, l1, l2, l3, l4⟩ | go_keep)
        (first
        | (go_at_call 94; refine (HPL.out _).mono ?_; rintro e w1 ⟨rfl, hb1'⟩; have hb1 : Below W1.heap.size W1 w1 := (((Below.refl _ _).drew).on hb1'); have j0 := (hb1.cell (p := ⟨w.heap.size, 0, none⟩) hz2).trans e0; have j1 := (hb1.cell (p := ⟨w.heap.size, 1, none⟩) hz2).trans e1; have j2 := (hb1.cell (p := ⟨wr.heap.size, 0, none⟩) hz3).trans e2; have j3 := (hb1.cell (p := ⟨wr.heap.size, 1, none⟩) hz3).trans e3; have j4 := (hb1.cell (p := ⟨wr.heap.size, 2, none⟩) hz3).trans e4; have hb2 : Below W1.heap.size W1 w1 := hb1; have HO2 := Lib.hid (owns_below HO1.out (Nat.le_refl _) hb2); have hz4 := hb2.size)
        | (refine step_one _ (by rfl) _ _ 87 (by rfl) W0.heap.size 128 _ 3 32 Tryz.underlying87 infoC rfl (by decide) (by decide) _ k (flatC n (cs.take k)) (by rfl) (by first | exact HO2.out.alloc _ | exact (HO2.out.alloc _).drew) w1.heap.size 1 (by rfl) [.int .i64 x, .iface T (.int .i64 y), .int .i64 z] rfl ?_ ?_ (by omega) (by simp; omega) ?_; (focus (intro j u hj; match j, hj with | 0, hj => (simp at hj; subst hj; simp) | 1, hj => (simp at hj; subst hj; simp) | 2, hj => (simp at hj; subst hj; simp))); (focus (intro u hu; simp at hu; rcases hu with rfl | rfl | rfl <;> rfl)); intro g2 cap2 w3 hown3 hgrow hblk hg3; have A1 : Below w1.heap.size w1 (w1.alloc (.cells #[.int .i64 x, .iface T (.int .i64 y), .int .i64 z] 128)) := (Below.refl _ _).alloc (Nat.le_refl _) _; have za : w.heap.size < w1.heap.size := Nat.lt_of_lt_of_le hz2 hz4; have zb : wr.heap.size < w1.heap.size := Nat.lt_of_lt_of_le hz3 hz4; have l0 := (hgrow.cell_far ⟨w.heap.size, 0, none⟩ (Nat.lt_of_lt_of_le za A1.size) hva).trans ((A1.cell (p := ⟨w.heap.size, 0, none⟩) za).trans j0); have l1 := (hgrow.cell_far ⟨w.heap.size, 1, none⟩ (Nat.lt_of_lt_of_le za A1.size) hva).trans ((A1.cell (p := ⟨w.heap.size, 1, none⟩) za).trans j1); have l2 := (hgrow.cell_far ⟨wr.heap.size, 0, none⟩ (Nat.lt_of_lt_of_le zb A1.size) hvb).trans ((A1.cell (p := ⟨wr.heap.size, 0, none⟩) zb).trans j2); have l3 := (hgrow.cell_far ⟨wr.heap.size, 1, none⟩ (Nat.lt_of_lt_of_le zb A1.size) hvb).trans ((A1.cell (p := ⟨wr.heap.size, 1, none⟩) zb).trans j3); have l4 := (hgrow.cell_far ⟨wr.heap.size, 2, none⟩ (Nat.lt_of_lt_of_le zb A1.size) hvb).trans ((A1.cell (p := ⟨wr.heap.size, 2, none⟩) zb).trans j4))
        | fail)
      have hbw1 : Below W0.heap.size W0 w1 := (hbel.on HA0.out).on hb2
      have hbw3 : Below W0.heap.size W0 w3 := by
        first
        | exact hbw1.trans (((Below.refl _ _).alloc hbw1.size _).trans (grown_below (HO2.out.alloc _) (by have := hbw1.size; simp; omega) hgrow))
        | exact hbw1.trans (((Below.refl _ _).alloc hbw1.size _).drew.trans (grown_below (HO2.out.alloc _).drew (by have := hbw1.size; simp; omega) hgrow))
      clear hgrow hblk hg3
      go_wp2
      go_roundw
      case rel => exact ⟨k + 1, hlt, by go_num, by rw [HST.out]; exact hown3, hbw3⟩
      case measure => simp [intOf]; omega
    · obtain rfl : k = cs.length := by omega
      go_wp2
      go_ret
      refine ⟨_, rfl, ?_, hb0.on hbel⟩
      rw [List.take_length] at hown
      obtain ⟨g1, g2 | ⟨g, cap, cur, e, hg, r⟩⟩ := hown
      · exact ⟨g1, .inl g2⟩
      · exact ⟨g1, .inr ⟨g, cap, cur, e, by omega, r⟩⟩
end Go.Proofs.YtadamjleglckpaaGreat.drn

/- Package drain, the walks: all groups (groupsFrom, groupsOf). -/
namespace Go.Proofs.YtadamjleglckpaaGreat.drn
open Go.RowKit
set_option linter.unusedSimpArgs false
set_option linter.unusedVariables false

theorem infoS : (Tryz.prog.info? 84).map (fun i => (i.zero, i.size, i.bytes)) = some (some (.int .u64 0), 1, 8) := by kernel_rfl
/-- append(list, s): sets -/
theorem app_set (w : World) {ops : Array Oper} {rest : List Oper} {o : Oper} {a : Act} {Q : Exit → Act → World → Prop} (hgd : o.guard = none) (s x : Operand)
    (ho : o.op = .call { callee := .builtin .append, args := #[s, x], argTypes := #[91, 91] }) (base : Nat) (v : Value) (xs : List Nat) (n : Nat) (hs : a.eval s = v)
    (hown : w.ownsRow base 84 1 v xs.length (flatU xs)) (B c : Nat) (hx : a.eval x = .slice (some ⟨B, 0, none⟩) 1 c)
    (hc1 : w.cell? ⟨B, 0, none⟩ = some (.int .u64 n)) (hl : xs.length ≤ 1000000) (hbase : base ≤ w.heap.size)
    (h : ∀ v' w', w'.ownsRow base 84 1 v' (xs ++ [n]).length (flatU (xs ++ [n])) → w.grownBy w' v.ownBlock → (v'.ownBlock = v.ownBlock ∨ v'.ownBlock = some w.heap.size) → wpList Tryz.prog ops Q rest (a.put o.dst v') w') :
    wpList Tryz.prog ops Q (o :: rest) a w := by
  refine app_one w hgd s x 91 ho base 84 _ 1 8 Tryz.underlying91 infoS rfl (by decide) (by decide) v xs.length (flatU xs) hs hown B c hx [.int .u64 n] rfl ?_ ?_ hl hbase ?_
  · intro j u hj
    match j, hj with
    | 0, hj => simp at hj; subst hj; exact hc1
  · intro u hu; simp at hu; subst hu; rfl
  · intro v' w' h1 h2 h3
    refine h v' w' ?_ h2 h3
    rw [flatU_snoc, List.length_append]
    exact h1
/-- a row stays where another row grows -/
theorem RowV.grown {w w' : World} {q : Option Addr} {vs : List Value} (h : RowV w q vs) {ob : Option Nat} (hne : ∀ a, q = some a → some a.block ≠ ob) (hg : w.grownBy w' ob) : RowV w' q vs := by
  rcases h with h | ⟨b, off, e, hz, hc⟩
  · exact .inl h
  · refine .inr ⟨b, off, e, Nat.lt_of_lt_of_le hz hg.size, fun i v hi => ?_⟩
    rw [hg.cell_far ⟨b, off + i, none⟩ hz (hne ⟨b, off, none⟩ e)]
    exact hc i v hi
/-- a row beside another one that has been appended to -/
theorem beside_app {w : World} {q : Option Addr} {v v' : Value} (hz : ∀ a, q = some a → a.block < w.heap.size) (hne : ∀ a, q = some a → some a.block ≠ v.ownBlock)
    (hbk : v'.ownBlock = v.ownBlock ∨ v'.ownBlock = some w.heap.size) : ∀ a, q = some a → some a.block ≠ v'.ownBlock := by
  intro a ha e
  rcases hbk with h | h
  · exact hne a ha (by rw [e, h])
  · rw [h] at e
    injection e with e
    have := hz a ha
    omega
theorem groupsS_len : ∀ (k i : Nat), (groupsS k i).length = 2 ^ k - 1
  | 0, _ => rfl
  | k + 1, i => by
    have ih := groupsS_len k (i + 1)
    have := Nat.two_pow_pos k
    simp only [groupsS, List.length_append, List.length_cons, List.length_map, ih, Nat.pow_succ]
    omega
theorem groupsS_lt : ∀ (k i : Nat), i + k ≤ 6 → ∀ s ∈ groupsS k i, s < 64
  | 0, _, _, s, h => by simp [groupsS] at h
  | k + 1, i, hk, s, h => by
    have ih := groupsS_lt k (i + 1) (by omega)
    have ho := oneS_lt (show i < 6 by omega)
    simp only [groupsS, List.mem_append, List.mem_cons, List.mem_map] at h
    rcases h with (rfl | ⟨t, ht, rfl⟩) | h
    · exact ho
    · exact or_lt ho (ih t ht)
    · exact ih s h
theorem groupsS_step (m j : Nat) : groupsS (m + 1) j = [oneS j] ++ (groupsS m (j + 1)).map (oneS j ||| ·) ++ groupsS m (j + 1) := rfl

set_option maxRecDepth 100000 in
set_option maxHeartbeats 1000000 in
theorem groupsFrom_any (n : Nat) (hn : n ≤ 6) : ∀ (k i : Nat) (w : World), i + k = n →
    Calls Tryz.prog 105 #[.int .i64 i, .int .i64 n] w (RetV w 84 1 (groupsS k i).length (flatU (groupsS k i))) := by
  intro k
  induction k using Nat.strongRecOn with
  | _ k ih =>
    intro i w hik
    have HIH := Lib.hid ih
    have hlen := groupsS_len k i
    have hpw : 2 ^ k ≤ 64 := Nat.pow_le_pow_right (by decide) (show k ≤ 6 by omega)
    have HLEN := Lib.hid hlen
    clear ih hlen
    go_enter Tryz.func105, Tryz.ntmps105
    go_wp2
    go_loopw [5, 6] (fun v x wr => ∃ (t : Nat) (acc : List Nat), t ≤ k ∧ x = .int .i64 ((i + t : Nat) : Int) ∧ acc ++ groupsS (k - t) (i + t) = groupsS k i ∧ wr.ownsRow w.heap.size 84 1 v acc.length (flatU acc) ∧ Below w.heap.size w wr) (fun _ x _ => n - (intOf x).toNat)
    case atStart => exact ⟨0, [], Nat.zero_le _, rfl, rfl, World.ownsRow_nil _ _ _ _, Below.refl _ _⟩
    case round =>
      obtain ⟨t, acc, ht, rfl, hacc, hown, hbel⟩ := hrel
      by_cases htk : t < k
      · obtain ⟨m, hm⟩ : ∃ m, k - t = m + 1 := ⟨k - t - 1, by omega⟩
        obtain ⟨j, hj⟩ : ∃ j, i + t = j := ⟨_, rfl⟩
        have hlt := groupsS_lt m (j + 1) (by omega)
        have hrl := groupsS_len m (j + 1)
        have hl0 := congrArg List.length hacc
        rw [hm, hj, groupsS_step, HLEN.out] at hl0
        simp only [List.length_append] at hl0
        have hal : acc.length ≤ 64 := by omega
        have hrl2 : (groupsS m (j + 1)).length ≤ 64 := by omega
        rw [hm, hj, groupsS_step] at hacc
        have hcall := fun W => HIH.out m (by omega) (j + 1) W (by omega)
        obtain ⟨R, hR⟩ : ∃ R, groupsS m (j + 1) = R := ⟨_, rfl⟩
        rw [hR] at hlt hrl2 hacc
        simp only [hR] at hcall
        have ej : ((j + 1 : Nat) : Int) = (j : Int) + 1 := by omega
        simp only [ej] at hcall
        rw [hj]
        have HR := Lib.hid hR
        have HACC := Lib.hid hacc
        have HCALL := Lib.hid hcall
        have HLT := Lib.hid hlt
        have HJ := Lib.hid hj
        have HM := Lib.hid hm
        have HO := Lib.hid hown
        have hj6 : j < 6 := by omega
        have hjn : (j : Int) < (n : Int) := by omega
        have hone := oneS_lt hj6
        clear hR hacc hcall hlt hj hm hown ej hl0 hrl hpw
        go_wp2_with (first
          | (go_at_call 90; refine (alone_any j _ hj6).mono ?_; rintro e w1 ⟨rfl, rfl⟩)
          | (at_builtin; refine app_set _ rfl (.tmp 18) (.tmp 20) rfl w.heap.size _ acc (oneS j) rfl (HO.out.alloc _) wr.heap.size 1 rfl (by simp) (by omega) (by have := hbel.size; simp; omega) ?_; intro v2 w2 hown2 hgr2 hbk2; have hb2 : Below w.heap.size w w2 := hbel.trans (((Below.refl _ _).alloc hbel.size _).trans (grown_below (HO.out.alloc _) (by have := hbel.size; simp; omega) hgr2)); have HO2 := Lib.hid hown2; clear hown2 hgr2 hbk2)
          | (go_at_call 105; refine (HCALL.out w2).mono ?_; rintro e w3 ⟨v3, rfl, hown3, hb3⟩; have hz3 := HO2.out.lt; obtain ⟨q, c3, rfl, hrow, hqc, hqb⟩ := rowV_of_owns hown3 (by intro h0; rw [List.length_eq_zero_iff] at h0; rw [h0]; rfl); clear hown3))
        have hown3 := owns_below HO2.out (Nat.le_refl _) hb3
        have hbw3 : Below w.heap.size w w3 := hb2.on hb3
        have hqne : ∀ a, q = some a → some a.block ≠ v2.ownBlock := by
          intro a ha e
          have h1 := (hqb a ha).1
          have h2 := (hz3 a.block e.symm).2
          omega
        have hqz : ∀ a, q = some a → a.block < w3.heap.size := fun a ha => (hqb a ha).2
        clear hqb hz3 hb3 hb2 HO2 HO
        go_loopw [5, 27] (fun v x wl => ∃ l : Nat, l ≤ R.length ∧ x = .int .i64 l ∧ wl.ownsRow w.heap.size 84 1 v (acc ++ [oneS j] ++ (R.take l).map (oneS j ||| ·)).length (flatU (acc ++ [oneS j] ++ (R.take l).map (oneS j ||| ·))) ∧ RowV wl q (flatU R) ∧ (∀ a, q = some a → some a.block ≠ v.ownBlock) ∧ Below w.heap.size w wl) (fun _ x _ => R.length - (intOf x).toNat)
        case atStart => exact ⟨0, Nat.zero_le _, rfl, by simpa using hown3, hrow, hqne, hbw3⟩
        case round =>
          obtain ⟨l, hl, rfl, hownl, hrowl, hqnel, hbl⟩ := hrel
          by_cases hlr : l < R.length
          · obtain ⟨b, off, rfl, hbz, h1⟩ := rowU_at hrowl hlr (Nat.le_refl _) (Below.refl _ _)
            have hst := map_take_succ (oneS j ||| ·) R l 0 hlr
            have hs := HLT.out _ (getD_mem R l 0 hlr)
            have hcl : (acc ++ [oneS j] ++ (R.take l).map (oneS j ||| ·)).length ≤ 1000 := by simp; omega
            generalize R.getD l 0 = s at h1 hst hs
            have hst2 : acc ++ [oneS j] ++ (R.take (l + 1)).map (oneS j ||| ·) = (acc ++ [oneS j] ++ (R.take l).map (oneS j ||| ·)) ++ [oneS j ||| s] := by rw [hst]; simp
            have HST := Lib.hid hst2
            have hor := or_u (oneS j) s (by omega) (by omega)
            clear hst hst2
            generalize acc ++ [oneS j] ++ (R.take l).map (oneS j ||| ·) = A at hownl hcl HST
            have HOL := Lib.hid hownl
            have HQN := Lib.hid hqnel
            have HRL := Lib.hid hrowl
            have hqz2 : b < wr.heap.size := hbz
            clear hownl hqnel hrowl
            go_wp2_with (at_builtin; refine app_set _ rfl (.tmp 31) (.tmp 35) rfl w.heap.size _ A (oneS j ||| s) rfl (HOL.out.alloc _) wr.heap.size 1 rfl (by simp) (by omega) (by have := hbl.size; simp; omega) ?_; intro v4 w4 hown4 hgr4 hbk4; have hb4 : Below w.heap.size w w4 := hbl.trans (((Below.refl _ _).alloc hbl.size _).trans (grown_below (HOL.out.alloc _) (by have := hbl.size; simp; omega) hgr4)))
            go_roundw
            case rel =>
              have hra : RowV (wr.alloc (.cells #[.int .u64 (oneS j ||| s : Nat)] 84)) (some ⟨b, off, none⟩) (flatU R) := HRL.out.below (Nat.le_refl _) ((Below.refl _ _).alloc (Nat.le_refl _) _)
              refine ⟨l + 1, hlr, by go_num, by rw [HST.out]; exact hown4, hra.grown HQN.out hgr4, ?_, hb4⟩
              refine beside_app (w := wr.alloc (.cells #[.int .u64 (oneS j ||| s : Nat)] 84)) ?_ HQN.out hbk4
              intro a ha
              injection ha with ha
              subst ha
              simp
              omega
            case measure => simp [intOf]; omega
          · obtain rfl : l = R.length := by omega
            rw [List.take_length] at hownl
            have HOL := Lib.hid hownl
            clear hownl
            have e1 : ((i + (t + 1) : Nat) : Int) = (j : Int) + 1 := by have := HJ.out; omega
            go_wp2
            go_roundw
            case rel =>
              refine ⟨t + 1, _, htk, by go_num, ?_, HOL.out, hbl⟩
              have h1 := HM.out
              have h2 := HJ.out
              have h3 := HACC.out
              rw [show k - (t + 1) = m by omega, show i + (t + 1) = j + 1 by omega, HR.out]
              rw [← h3]
              simp
            case measure => simp [intOf]; omega
      · obtain rfl : t = k := by omega
        have hfin : acc = groupsS t i := by rw [← hacc, Nat.sub_self]; simp [groupsS]
        subst hfin
        have hno : ¬ (((i + t : Nat) : Int) < (n : Int)) := by omega
        go_wp2
        go_ret
        exact ⟨_, rfl, hown, hbel⟩
end Go.Proofs.YtadamjleglckpaaGreat.drn

/- Package drain, the walks: checkGroup, Leaves, Stuck. -/
namespace Go.Proofs.YtadamjleglckpaaGreat.drn
open Go.RowKit
set_option linter.unusedSimpArgs false
set_option linter.unusedVariables false

theorem chs_of {n : Int} {cs : List Ch} (h : errD n cs = 0) : ∃ m : Nat, n = m ∧ Chs m cs := by
  obtain ⟨h1, h2, h3, h4, _⟩ := errD_ok h
  refine ⟨n.toNat, by omega, by omega, by omega, h3, ?_⟩
  rw [show ((n.toNat : Nat) : Int) = n by omega]
  exact h4
theorem errD_nat (n : Int) (cs : List Ch) : errD (n.toNat : Nat) cs = errD n cs := by
  by_cases h : 0 ≤ n
  · rw [show ((n.toNat : Nat) : Int) = n by omega]
  · unfold errD
    rw [if_pos (.inl (by omega)), if_pos (.inl (by omega))]

/-- what checkGroup's loop has still to answer -/
theorem groupErr_at (n : Int) (l : List Int) (k : Nat) (hk : k < l.length) (b : Option Int) : groupErr n b (l.drop k) =
    if !isGal n (l.getD k 0) then 2 else if notUp b (l.getD k 0) then 7 else groupErr n (some (l.getD k 0)) (l.drop (k + 1)) := by
  rw [List.drop_eq_getElem_cons hk, ← getD_eq l k 0 hk]
  rfl
def before (l : List Int) : Nat → Option Int
  | 0 => none
  | k + 1 => some (l.getD k 0)

set_option maxRecDepth 100000 in
theorem checkGroup_any (n : Int) (q : Option Addr) (m c : Nat) (q2 : Option Addr) (cap : Nat) (l : List Int) (w : World) (hr : RowV w q2 (flatI l)) (hl : l.length ≤ 1000000) :
    Calls Tryz.prog 65 #[hillV n q m c, .slice q2 l.length cap] w fun e w' => e = .returned (.int .i64 (grErr n l)) ∧ Below w.heap.size w w' := by
  unfold hillV
  have hb0 : Below w.heap.size w (w.alloc (.cells #[.int .i64 n, .slice q m c] 24)) := (Below.refl _ _).alloc (Nat.le_refl _) _
  by_cases h0 : l.length = 0
  · have h0b : ((l.length : Int) == 0) = true := by simp [h0]
    have HG := Lib.hid (show grErr n l = 4 by rw [grErr, if_pos h0])
    clear h0
    go_enter Tryz.func65, Tryz.ntmps65
    go_wp2
    go_ret
    exact ⟨ret_int (by rw [HG.out]), hb0⟩
  · have h0b : ((l.length : Int) == 0) = false := beq_eq_false_iff_ne.2 (by omega)
    have HG := Lib.hid (show grErr n l = groupErr n none l by rw [grErr, if_neg h0])
    have hr0 := hr.below (Nat.le_refl _) hb0
    clear h0
    go_enter Tryz.func65, Tryz.ntmps65
    go_wp2
    clear h0b
    obtain ⟨W0, hW0⟩ : ∃ W0, w.alloc (.cells #[.int .i64 n, .slice q m c] 24) = W0 := ⟨_, rfl⟩
    have hz0 : w.heap.size < W0.heap.size := by rw [← hW0]; simp
    have hc0 : W0.cell? ⟨w.heap.size, 0, none⟩ = some (.int .i64 n) ∧ W0.cell? ⟨w.heap.size, 1, none⟩ = some (.slice q m c) := by rw [← hW0]; simp
    obtain ⟨c0, c1⟩ := hc0
    rw [hW0] at hr0 hb0 ⊢
    clear hW0
    go_loopw [12] (fun i wr => ∃ k : Nat, k ≤ l.length ∧ i = .int .i64 k ∧ groupErr n (before l k) (l.drop k) = groupErr n none l ∧ Below W0.heap.size W0 wr) (fun i _ => l.length - (intOf i).toNat)
    case atStart => exact ⟨0, Nat.zero_le _, rfl, rfl, Below.refl _ _⟩
    case round =>
      obtain ⟨k, hk, rfl, hrest, hbel⟩ := hrel
      by_cases hlt : k < l.length
      · obtain ⟨b, off, rfl, hb, h1⟩ := rowI_at hr0 hlt (Nat.le_refl _) hbel
        have hst := groupErr_at n l k hlt (before l k)
        rw [hrest, ← HG.out] at hst
        have d0 : wr.cell? ⟨w.heap.size, 0, none⟩ = some (.int .i64 n) := (hbel.cell (p := ⟨w.heap.size, 0, none⟩) hz0).trans c0
        have d1 : wr.cell? ⟨w.heap.size, 1, none⟩ = some (.slice q m c) := (hbel.cell (p := ⟨w.heap.size, 1, none⟩) hz0).trans c1
        have hzr := hbel.size
        by_cases hk0 : k = 0
        · subst hk0
          generalize hx : l.getD 0 0 = x at h1 hst
          have HST := Lib.hid hst
          have HX := Lib.hid hx
          have h1' : wr.cell? ⟨b, off, none⟩ = some (.int .i64 x) := by simpa using h1
          clear hst hrest c0 c1 hx
          go_wp2_with (go_at_call 92; refine (hasGallery_any _ _ _ _ _ _).mono ?_; rintro e w1 ⟨hg, hb1⟩; rw [isGal_eq] at hg; obtain ⟨gg, hgg⟩ : ∃ gg, isGal n x = gg := ⟨_, rfl⟩; rw [hgg] at hg; have HGG := Lib.hid hgg; clear hgg; subst hg)
          · have hgf : gg = false := by simpa using (by assumption : (!gg) = true)
            subst hgf
            go_ret
            exact ⟨ret_int (by rw [HST.out, HGG.out]; rfl), hb0.on (hbel.on hb1)⟩
          · have hgf : gg = true := by simpa using (by assumption : (!gg) = false)
            subst hgf
            refine ⟨⟨1, hlt, rfl, ?_, hbel.on hb1⟩, ?_⟩
            · have h := HST.out
              rw [HGG.out] at h
              rw [← HG.out, h]
              show groupErr n (some (l.getD 0 0)) _ = _
              rw [HX.out]
              rfl
            · simp [intOf]; omega
        · obtain ⟨j, rfl⟩ : ∃ j, k = j + 1 := ⟨k - 1, by omega⟩
          obtain ⟨b', off', e', hb', h2⟩ := rowI_at hr0 (show j < l.length by omega) (Nat.le_refl _) hbel
          injection e' with e'
          injection e' with e1 e2
          subst e1 e2
          have hbf : before l (j + 1) = some (l.getD j 0) := rfl
          rw [hbf] at hst
          generalize hx : l.getD (j + 1) 0 = x at h1 hst
          generalize hp : l.getD j 0 = p at h2 hst
          have HST := Lib.hid hst
          have HX := Lib.hid hx
          have ej : IntKind.i64.wrap (((j + 1 : Nat) : Int) - 1) = (j : Int) := by rw [show ((j + 1 : Nat) : Int) - 1 = (j : Int) by omega]; exact IntWalk.i64_in _ ⟨by omega, by omega⟩
          have hjl : (j : Int) < (l.length : Int) := by omega
          have hj0 : (0 : Int) < ((j + 1 : Nat) : Int) := by omega
          clear hst hrest c0 c1 hx hp hbf hk0
          go_wp2_with (go_at_call 92; refine (hasGallery_any _ _ _ _ _ _).mono ?_; rintro e w1 ⟨hg, hb1⟩; rw [isGal_eq] at hg; obtain ⟨gg, hgg⟩ : ∃ gg, isGal n x = gg := ⟨_, rfl⟩; rw [hgg] at hg; have HGG := Lib.hid hgg; clear hgg; subst hg; obtain ⟨hc1, hf1⟩ := bcell hb1; have hbz : b < wr.heap.size := Nat.lt_of_lt_of_le hb hzr; have hbz1 : b < w1.heap.size := Nat.lt_of_lt_of_le hbz hb1.size)
          · have hgf : gg = false := by simpa using (by assumption : (!gg) = true)
            subst hgf
            go_ret
            exact ⟨ret_int (by rw [HST.out, HGG.out]; rfl), hb0.on (hbel.on hb1)⟩
          · have hgf : gg = true := by simpa using (by assumption : (!gg) = false)
            subst hgf
            have hle : x ≤ p := by assumption
            go_ret
            exact ⟨ret_int (by rw [HST.out, HGG.out]; simp [notUp, hle]), hb0.on (hbel.on hb1)⟩
          · have hgf : gg = true := by simpa using (by assumption : (!gg) = false)
            subst hgf
            have hle : ¬ x ≤ p := by first | assumption | omega
            refine ⟨⟨j + 2, hlt, by simp; omega, ?_, hbel.on hb1⟩, ?_⟩
            · have h := HST.out
              rw [HGG.out] at h
              rw [← HG.out, h]
              show groupErr n (some (l.getD (j + 1) 0)) _ = _
              rw [HX.out]
              simp [notUp, hle]
            · simp [intOf]; omega
      · obtain rfl : k = l.length := by omega
        go_wp2
        go_ret
        exact ⟨ret_int (by rw [HG.out, ← hrest, List.drop_length]; rfl), hb0.on hbel⟩

theorem andn : ∀ a : Nat, a < 64 → ∀ b : Nat, b < 64 → a &&& (18446744073709551615 - b) = a - (a &&& b) := by decide +kernel
/-- what follows from a hill that is in order -/
structure HillIn (w : World) (n : Nat) (q : Option Addr) (cap : Nat) (cs : List Ch) : Prop where
  chs : Chs n cs
  row : RowV w q (flatT cs)
  room : cs.length ≤ cap
theorem HillIn.below {w w' : World} {n : Nat} {q : Option Addr} {cap : Nat} {cs : List Ch} (h : HillIn w n q cap cs) (hb : Below w.heap.size w w') : HillIn w' n q cap cs := ⟨h.chs, h.row.below (Nat.le_refl _) hb, h.room⟩

theorem setS_bd {n : Nat} {l : List Int} (h : grErr n l = 0) : (∀ x ∈ l, 0 ≤ x ∧ x < n) ∧ l.Pairwise (· < ·) := by
  unfold grErr at h
  by_cases h0 : l.length = 0
  · rw [if_pos h0] at h; cases h
  · rw [if_neg h0] at h
    have key : ∀ (l : List Int) (b : Option Int), groupErr n b l = 0 → (∀ x ∈ l, 0 ≤ x ∧ x < n) ∧ l.Pairwise (· < ·) ∧ ∀ y, b = some y → ∀ x ∈ l, y < x := by
      intro l
      induction l with
      | nil => intro b _; exact ⟨by simp, by simp, by simp⟩
      | cons g r ih =>
        intro b h
        rw [groupErr] at h
        by_cases hg : isGal n g = true
        · rw [hg] at h
          simp only [Bool.not_true, Bool.false_eq_true, if_false] at h
          by_cases hu : notUp b g = true
          · rw [if_pos hu] at h; cases h
          · rw [if_neg hu] at h
            obtain ⟨i1, i2, i3⟩ := ih (some g) h
            have hgl := (isGal_iff n g).1 hg
            refine ⟨fun x hx => ?_, ?_, fun y hy x hx => ?_⟩
            · rcases List.mem_cons.1 hx with rfl | hx
              · exact hgl
              · exact i1 x hx
            · exact List.pairwise_cons.2 ⟨fun x hx => i3 g rfl x hx, i2⟩
            · subst hy
              have hlt : y < g := by simpa [notUp] using hu
              rcases List.mem_cons.1 hx with rfl | hx
              · exact hlt
              · have := i3 g rfl x hx; omega
        · have hg' : isGal n g = false := by simpa using hg
          rw [hg'] at h
          cases h
    obtain ⟨k1, k2, _⟩ := key l none h
    exact ⟨k1, k2⟩
theorem sorted_le {n : Nat} : ∀ {l : List Int}, (∀ x ∈ l, 0 ≤ x ∧ x < (n : Int)) → l.Pairwise (· < ·) → l.length ≤ n := by
  have key : ∀ (l : List Int) (lo : Nat), (∀ x ∈ l, (lo : Int) ≤ x ∧ x < (n : Int)) → l.Pairwise (· < ·) → l.length + lo ≤ n ∨ l = [] := by
    intro l
    induction l with
    | nil => intro lo _ _; exact .inr rfl
    | cons x r ih =>
      intro lo h1 h2
      rw [List.pairwise_cons] at h2
      have hx := h1 x (by simp)
      rcases ih (x.toNat + 1) (fun y hy => ⟨by have := h2.1 y hy; omega, (h1 y (by simp [hy])).2⟩) h2.2 with h | h
      · left; rw [List.length_cons]; omega
      · left; rw [h]; simp; omega
  intro l h1 h2
  rcases key l 0 (by simpa using h1) h2 with h | h
  · omega
  · rw [h]; simp
theorem setS_lt {n : Nat} (hn : n ≤ 6) {l : List Int} (h : ∀ x ∈ l, 0 ≤ x ∧ x < (n : Int)) : setS l < 2 ^ n := by
  have : ∀ (l : List Int) (s : Nat), (∀ x ∈ l, 0 ≤ x ∧ x < (n : Int)) → s < 2 ^ n → l.foldl (fun s g => s ||| 1 <<< g.toNat) s < 2 ^ n := by
    intro l
    induction l with
    | nil => intro s _ h; exact h
    | cons x r ih =>
      intro s hx h
      rw [List.foldl_cons]
      refine ih _ (fun y hy => hx y (by simp [hy])) ?_
      have h1 := hx x (by simp)
      refine Nat.or_lt_two_pow h ?_
      rw [Nat.one_shiftLeft]
      exact Nat.pow_lt_pow_right (by decide) (by omega)
  exact this l 0 h (Nat.two_pow_pos n)

set_option maxRecDepth 100000 in
set_option maxHeartbeats 2000000 in
theorem Stuck_any (n : Int) (q : Option Addr) (cap : Nat) (cs : List Ch) (w : World) (hr : RowV w q (flatT cs)) (hcap : cs.length ≤ cap) :
    Calls Tryz.prog 9 #[hillV n q cs.length cap] w (RetI w (stuckOf n.toNat cs).1 (stuckOf n.toNat cs).2) := by
  have hb0 : Below w.heap.size w (w.alloc (.cells #[.int .i64 n, .slice q cs.length cap] 24)) := (Below.refl _ _).alloc (Nat.le_refl _) _
  have c1 := Check_any n q cap cs _ (hr.below (Nat.le_refl _) hb0) hcap
  unfold hillV at c1 ⊢
  have C1 := Lib.hid c1
  have HB := Lib.hid hb0
  clear c1
  by_cases h0 : errD n cs = 0
  · obtain ⟨m, rfl, hchs⟩ := chs_of h0
    have hans : stuckOf ((m : Int).toNat) cs = (listS (allS m - (allS m &&& wetS m cs)), 0) := by
      unfold stuckOf
      rw [Int.toNat_natCast, if_neg (by rw [h0]; simp)]
    rw [hans]
    have HR := Lib.hid hr
    have HCH := Lib.hid hchs
    have hn6 := hchs.n6
    rw [h0] at C1
    clear hans h0 hr hb0 hchs
    go_enter Tryz.func9, Tryz.ntmps9
    go_upto_region 4 with (go_at_call 18; refine C1.out.mono ?_; rintro e w1 ⟨rfl, hb1⟩; obtain ⟨hc1, hf1⟩ := bcell hb1; have hac1 : Below w.heap.size w w1 := HB.out.on hb1; have hz0 : w.heap.size < w1.heap.size := (by have := hb1.size; simp at this; omega))
    obtain ⟨d0, d1⟩ : w1.cell? ⟨w.heap.size, 0, none⟩ = some (.int .i64 m) ∧ w1.cell? ⟨w.heap.size, 1, none⟩ = some (.slice q cs.length cap) := ⟨by rw [hc1 _ _ (by simp)]; simp, by rw [hc1 _ _ (by simp)]; simp⟩
    clear hc1 hf1 hb1
    go_region_held3 (fun W => W.cell? ⟨w.heap.size, 0, none⟩ = some (.int .i64 m) ∧ W.cell? ⟨w.heap.size, 1, none⟩ = some (.slice q cs.length cap)) (first | exact ⟨d0, d1⟩ | exact ⟨e0, e1⟩ | exact ⟨f0, f1⟩ | exact ⟨g0, g1⟩ | go_keep)
      (first
      | (go_at_call 51; refine (allOf_any m q cs.length cap _ hn6).mono ?_; rintro e wA ⟨rfl, hbA'⟩; have hbA : Below w1.heap.size w1 wA := (((Below.refl _ _).drew).on hbA'); have e0 := (hbA.cell (p := ⟨w.heap.size, 0, none⟩) hz0).trans d0; have e1 := (hbA.cell (p := ⟨w.heap.size, 1, none⟩) hz0).trans d1; have hacA : Below w.heap.size w wA := hac1.on hbA; have hzA : w.heap.size < wA.heap.size := Nat.lt_of_lt_of_le hz0 hbA.size)
      | (go_at_call 53; refine (channelsOf_any m q cap cs _ HCH.out (HR.out.below (Nat.le_refl _) hacA)).mono ?_; rintro e wB ⟨vB, rfl, hownB, hbB⟩; have f0 := (hbB.cell (p := ⟨w.heap.size, 0, none⟩) hzA).trans e0; have f1 := (hbB.cell (p := ⟨w.heap.size, 1, none⟩) hzA).trans e1; have hacB : Below w.heap.size w wB := hacA.on hbB; have hzB : w.heap.size < wB.heap.size := Nat.lt_of_lt_of_le hzA hbB.size; obtain ⟨qB, cB, rfl, hrowB, _, _⟩ := rowV_of_owns hownB (by intro h; rw [List.length_eq_zero_iff] at h; rw [h]; rfl))
      | (go_at_call 52; refine (drained_any m qB cB cs _ HCH.out hrowB).mono ?_; rintro e wC ⟨rfl, hbC⟩; have g0 := (hbC.cell (p := ⟨w.heap.size, 0, none⟩) hzB).trans f0; have g1 := (hbC.cell (p := ⟨w.heap.size, 1, none⟩) hzB).trans f1; have hacC : Below w.heap.size w wC := hacB.on hbC)
      | fail)
    have hwet := wetS_bd HCH.out.ok
    have hal : allS m < 2 ^ m := by unfold allS; have := Nat.two_pow_pos m; omega
    have h64 := pow_64 hn6 hwet
    have h64a := pow_64 hn6 hal
    have han : bits .andNot .u64 (allS m : Int) (wetS m cs : Int) = ((allS m - (allS m &&& wetS m cs) : Nat) : Int) := by
      rw [u64_andNot_nat _ _ (by omega) (by omega)]
      rw [andn _ h64a _ h64]
    have hls := list_any (allS m - (allS m &&& wetS m cs)) wC (by omega)
    have HLS := Lib.hid hls
    clear hls
    go_wp2_with (go_at_call 54; refine HLS.out.mono ?_; rintro e w5 ⟨v5, rfl, hown5, hb5⟩; obtain ⟨q5, c5, rfl, hrow5, hq5, hqb5⟩ := rowV_of_owns hown5 (by intro h; rw [List.length_eq_zero_iff] at h; rw [h]; rfl))
    go_ret2
    exact ⟨q5, c5, rfl, hrow5, hq5, fun a ha => ⟨Nat.le_trans hacC.size (hqb5 a ha).1, (hqb5 a ha).2⟩, hacC.on hb5⟩
  · have hans : stuckOf n.toNat cs = ([], errD n cs) := by
      unfold stuckOf
      rw [errD_nat, if_pos h0]
    rw [hans]
    have hb : (errD n cs != 0) = true := by simpa using h0
    clear hans h0 hr hb0
    go_enter Tryz.func9, Tryz.ntmps9
    go_wp2_with (go_at_call 18; refine C1.out.mono ?_; rintro e w1 ⟨rfl, hb1⟩)
    go_ret2
    exact ⟨none, 0, rfl, .inl rfl, fun _ => rfl, by simp, HB.out.on hb1⟩
end Go.Proofs.YtadamjleglckpaaGreat.drn

/- Package drain: the first of the least, by a walk from the left; costs; the channels that leave. -/
namespace Go.Proofs.YtadamjleglckpaaGreat.drn
/-- keeping the one at hand unless the next is less -/
def keepMin {α : Type} (f : α → Nat) (b : Option α) (x : α) : Option α := match b with
  | none => some x
  | some y => if f x < f y then some x else some y
theorem keepMin_from {α : Type} (f : α → Nat) : ∀ (l : List α) (y : α), l.foldl (keepMin f) (some y) = match firstMin f l with
    | none => some y
    | some x => if f x < f y then some x else some y
  | [], y => rfl
  | z :: l, y => by
    rw [List.foldl_cons]
    have e : keepMin f (some y) z = if f z < f y then some z else some y := rfl
    rw [e, firstMin]
    by_cases h : f z < f y
    · rw [if_pos h, keepMin_from f l z]
      cases firstMin f l with
      | none => simp [h]
      | some x =>
        by_cases h2 : f x < f z
        · simp only [h2, if_true]
          rw [if_pos (by omega)]
        · simp only [h2, if_false]
          rw [if_pos h]
    · rw [if_neg h, keepMin_from f l y]
      cases firstMin f l with
      | none => simp [h]
      | some x =>
        by_cases h2 : f x < f z
        · simp only [h2, if_true]
        · simp only [h2, if_false]
          rw [if_neg h, if_neg (by omega)]
theorem keepMin_all {α : Type} (f : α → Nat) (l : List α) : l.foldl (keepMin f) none = firstMin f l := by
  cases l with
  | nil => rfl
  | cons z l =>
    rw [List.foldl_cons]
    have e : keepMin f none z = some z := rfl
    rw [e, keepMin_from, firstMin]
    cases firstMin f l with
    | none => rfl
    | some x => rfl
theorem firstMin_none {α : Type} (f : α → Nat) (l : List α) : firstMin f l = none ↔ l = [] := by
  cases l with
  | nil => simp [firstMin]
  | cons z l =>
    rw [firstMin]
    cases firstMin f l with
    | none => simp
    | some x => simp only; split <;> simp
/-- it is one of them, none is less, and all before it are greater -/
theorem firstMin_some {α : Type} (f : α → Nat) : ∀ (l : List α) (x : α), firstMin f l = some x ↔ ∃ a b, l = a ++ x :: b ∧ (∀ y ∈ a, f x < f y) ∧ ∀ y ∈ b, f x ≤ f y
  | [], x => by simp [firstMin]
  | z :: l, x => by
    rw [firstMin]
    cases hm : firstMin f l with
    | none =>
      have hl := (firstMin_none f l).1 hm
      subst hl
      simp only [Option.some.injEq]
      constructor
      · rintro rfl
        exact ⟨[], [], rfl, by simp, by simp⟩
      · rintro ⟨a, b, h, _, _⟩
        match a, h with
        | [], h => injection h
        | _ :: a, h => injection h with _ h; simp at h
    | some w =>
      obtain ⟨a, b, hl, h1, h2⟩ := (firstMin_some f l w).1 hm
      have hmin : ∀ y ∈ l, f w ≤ f y := by
        intro y hy
        rw [hl] at hy
        rcases List.mem_append.1 hy with hy | hy
        · have := h1 y hy; omega
        · rcases List.mem_cons.1 hy with rfl | hy
          · exact Nat.le_refl _
          · exact h2 y hy
      simp only
      by_cases hlt : f w < f z
      · rw [if_pos hlt]
        simp only [Option.some.injEq]
        constructor
        · rintro rfl
          exact ⟨z :: a, b, by rw [hl]; rfl, fun y hy => by rcases List.mem_cons.1 hy with rfl | hy; exact hlt; exact h1 y hy, h2⟩
        · rintro ⟨a', b', h, k1, k2⟩
          match a', h, k1 with
          | [], h, _ =>
            injection h with e1 e2
            subst e1; subst e2
            have hw : w ∈ l := by rw [hl]; simp
            have := k2 w hw
            omega
          | c :: a', h, k1 =>
            injection h with e1 e2
            have := (firstMin_some f l x).2 ⟨a', b', e2, fun y hy => k1 y (by simp [hy]), k2⟩
            rw [hm] at this
            injection this
      · rw [if_neg hlt]
        simp only [Option.some.injEq]
        constructor
        · rintro rfl
          exact ⟨[], l, rfl, by simp, fun y hy => by have := hmin y hy; omega⟩
        · rintro ⟨a', b', h, k1, k2⟩
          match a', h, k1 with
          | [], h, _ => injection h
          | c :: a', h, k1 =>
            injection h with e1 e2
            subst e1
            have hx : x ∈ l := by rw [e2]; simp
            have a1 := k1 z (by simp)
            have a2 := (firstMin_some f l x).2 ⟨a', b', e2, fun y hy => k1 y (by simp [hy]), k2⟩
            rw [hm] at a2
            injection a2 with e3
            subst e3
            omega
/-- costs are whole numbers from 0 to 280 -/
theorem costS_fold (cs : List Ch) : ∀ (l : List Int) (k : Int), l.foldl (fun k i => k + (cs.getD i.toNat (0, 0, 0)).2.2) k = k + costS cs l
  | [], k => by simp [costS]
  | i :: l, k => by
    have e : costS cs (i :: l) = l.foldl (fun k i => k + (cs.getD i.toNat (0, 0, 0)).2.2) (0 + (cs.getD i.toNat (0, 0, 0)).2.2) := rfl
    rw [List.foldl_cons, costS_fold cs l, e, costS_fold cs l]
    omega
theorem costS_cons (cs : List Ch) (i : Int) (l : List Int) : costS cs (i :: l) = (cs.getD i.toNat (0, 0, 0)).2.2 + costS cs l := by
  have e : costS cs (i :: l) = l.foldl (fun k i => k + (cs.getD i.toNat (0, 0, 0)).2.2) (0 + (cs.getD i.toNat (0, 0, 0)).2.2) := rfl
  rw [e, costS_fold]; omega
theorem costS_bd {n : Int} {cs : List Ch} (hc : ∀ c ∈ cs, ChOk n c) : ∀ l : List Int, 0 ≤ costS cs l ∧ costS cs l ≤ 20 * l.length
  | [] => by simp [costS]
  | i :: l => by
    obtain ⟨h1, h2⟩ := costS_bd hc l
    rw [costS_cons, List.length_cons]
    have hb : 0 ≤ (cs.getD i.toNat (0, 0, 0)).2.2 ∧ (cs.getD i.toNat (0, 0, 0)).2.2 ≤ 20 := by
      by_cases hi : i.toNat < cs.length
      · rw [List.getD_eq_getElem?_getD, List.getElem?_eq_getElem hi]
        obtain ⟨_, _, _, a, b⟩ := hc _ (List.getElem_mem hi)
        exact ⟨a, b⟩
      · rw [List.getD_eq_getElem?_getD, List.getElem?_eq_none (by omega)]
        exact ⟨by decide, by decide⟩
    omega
end Go.Proofs.YtadamjleglckpaaGreat.drn

/- Package drain: ways by one channel from each gallery: none is longer than there are galleries. -/
namespace Go.Proofs.YtadamjleglckpaaGreat.drn
theorem countP_le_iff (n : Nat) (p q : Nat → Bool) (h : ∀ g, g < n → p g = true → q g = true) : (List.range n).countP p ≤ (List.range n).countP q ∧ ((List.range n).countP p = (List.range n).countP q → ∀ g, g < n → q g = true → p g = true) := by
  induction n with
  | zero => simp
  | succ n ih =>
    obtain ⟨i1, i2⟩ := ih fun g hg => h g (by omega)
    rw [List.range_succ, List.countP_append, List.countP_append, List.countP_singleton, List.countP_singleton]
    have hn := h n (by omega)
    cases hp : p n with
    | true =>
      rw [hn hp]
      refine ⟨by omega, fun he g hg hq => ?_⟩
      by_cases e : g = n
      · rw [e]; exact hp
      · exact i2 (by omega) g (by omega) hq
    | false =>
      cases hq : q n with
      | true =>
        simp only [if_true, Bool.false_eq_true, if_false]
        exact ⟨by omega, fun he => by omega⟩
      | false =>
        simp only [Bool.false_eq_true, if_false]
        refine ⟨by omega, fun he g hg hqg => ?_⟩
        by_cases e : g = n
        · rw [e, hq] at hqg; cases hqg
        · exact i2 (by omega) g (by omega) hqg
/-- what grows round by round, and stays once it has stayed, has come to rest after n rounds -/
theorem rests {n : Nat} (p : Nat → Nat → Bool) (mono : ∀ k g, g < n → p k g = true → p (k + 1) g = true)
    (stay : ∀ k, (∀ g, g < n → p (k + 1) g = true → p k g = true) → ∀ g, g < n → p (k + 2) g = true → p (k + 1) g = true) : ∀ k g, g < n → p k g = true → p n g = true := by
  have up : ∀ d k g, g < n → p k g = true → p (k + d) g = true := by
    intro d
    induction d with
    | zero => intro k g _ h; exact h
    | succ d ih => intro k g hg h; exact mono _ g hg (ih k g hg h)
  have still : ∀ i, (∀ g, g < n → p (i + 1) g = true → p i g = true) → ∀ d g, g < n → p (i + d) g = true → p i g = true := by
    intro i hi d
    have hall : ∀ d, ∀ g, g < n → p (i + d + 1) g = true → p (i + d) g = true := by
      intro d
      induction d with
      | zero => exact hi
      | succ d ih => intro g hg h; exact stay (i + d) ih g hg h
    induction d with
    | zero => intro g _ h; exact h
    | succ d ih => intro g hg h; exact ih g hg (hall d g hg h)
  have key : ∀ j, (∃ i, i ≤ j ∧ ∀ g, g < n → p (i + 1) g = true → p i g = true) ∨ j ≤ (List.range n).countP (p j) := by
    intro j
    induction j with
    | zero => exact .inr (Nat.zero_le _)
    | succ j ih =>
      rcases ih with ⟨i, hi, hs⟩ | hj
      · exact .inl ⟨i, by omega, hs⟩
      · obtain ⟨c1, c2⟩ := countP_le_iff n (p j) (p (j + 1)) (fun g hg h => mono j g hg h)
        by_cases he : (List.range n).countP (p j) = (List.range n).countP (p (j + 1))
        · exact .inl ⟨j, by omega, c2 he⟩
        · exact .inr (by omega)
  intro k g hg h
  rcases key n with ⟨i, hi, hs⟩ | hn
  · have h1 : p i g = true := by
      by_cases hk : i ≤ k
      · refine still i hs (k - i) g hg ?_
        rw [show i + (k - i) = k by omega]; exact h
      · have := up (i - k) k g hg h
        rwa [show k + (i - k) = i by omega] at this
    have := up (n - i) i g hg h1
    rwa [show i + (n - i) = n by omega] at this
  · have hall : (List.range n).countP (p n) = (List.range n).countP fun _ => true := by
      have h1 : (List.range n).countP (fun _ => true) = n := by simp
      have h2 : (List.range n).countP (p n) ≤ n := Nat.le_trans List.countP_le_length (by simp)
      omega
    exact (countP_le_iff n (p n) (fun _ => true) (fun _ _ _ => rfl)).2 hall g hg rfl

/-! ways by one channel from each gallery -/
/-- exactly one channel from each gallery -/
def OneEach (n : Nat) (ch : List Ch) : Prop := (∀ c ∈ ch, ChOk n c) ∧ (∀ g : Nat, g < n → ∃ c ∈ ch, c.1 = g) ∧ ch.Pairwise fun a b => a.1 ≠ b.1
def nextG (n : Nat) (ch : List Ch) (g : Int) : Int := (ch.find? fun c => c.1 == g).elim n fun c => c.2.1
/-- is the mouth reached from a gallery in at most so many steps? -/
def reach (n : Nat) (ch : List Ch) : Nat → Int → Bool
  | 0, g => g == n
  | k + 1, g => g == n || reach n ch k (nextG n ch g)
theorem next_mem {n : Nat} {ch : List Ch} (h : OneEach n ch) {g : Nat} (hg : g < n) : ∃ c ∈ ch, c.1 = g ∧ nextG n ch g = c.2.1 := by
  obtain ⟨c0, h1, h2⟩ := h.2.1 g hg
  cases hf : ch.find? fun c => c.1 == (g : Int) with
  | none =>
    have := List.find?_eq_none.1 hf c0 h1
    simp [h2] at this
  | some c =>
    have e := List.find?_some hf
    exact ⟨c, List.mem_of_find?_eq_some hf, by simpa using e, by rw [nextG, hf]; rfl⟩
theorem next_only {n : Nat} {ch : List Ch} (h : OneEach n ch) {c : Ch} (hc : c ∈ ch) : nextG n ch c.1 = c.2.1 := by
  obtain ⟨⟨a0, a1⟩, _⟩ := h.1 c hc
  obtain ⟨d, hd, h1, h2⟩ := next_mem h (g := c.1.toNat) (by omega)
  have e : ((c.1.toNat : Nat) : Int) = c.1 := by omega
  rw [e] at h1 h2
  have hdc : d = c := by
    obtain ⟨i, hi, rfl⟩ := List.getElem_of_mem hd
    obtain ⟨j, hj, rfl⟩ := List.getElem_of_mem hc
    have hp := List.pairwise_iff_getElem.1 h.2.2
    rcases Nat.lt_trichotomy i j with hij | hij | hij
    · exact absurd h1 (hp i j hi hj hij)
    · subst hij; rfl
    · exact absurd h1.symm (hp j i hj hi hij)
  rw [h2, hdc]
theorem reach_up (n : Nat) (ch : List Ch) : ∀ (k : Nat) (g : Int), reach n ch k g = true → reach n ch (k + 1) g = true
  | 0, g, h => by
    have h' : (g == (n : Int)) = true := h
    rw [reach, h']; rfl
  | k + 1, g, h => by
    rw [reach, Bool.or_eq_true] at h ⊢
    rcases h with h | h
    · exact .inl h
    · exact .inr (reach_up n ch k _ h)
theorem next_in {n : Nat} {ch : List Ch} (h : OneEach n ch) {g : Nat} (hg : g < n) : ∃ t : Nat, t ≤ n ∧ nextG n ch g = t := by
  obtain ⟨c, hc, _, e⟩ := next_mem h hg
  obtain ⟨_, ⟨b0, b1⟩, _⟩ := h.1 c hc
  exact ⟨c.2.1.toNat, by omega, by rw [e]; omega⟩
theorem reach_n (n : Nat) (ch : List Ch) (k : Nat) : reach n ch k n = true := by
  cases k <;> simp [reach]
/-- a way to the mouth takes no more steps than there are galleries -/
theorem reach_all {n : Nat} {ch : List Ch} (h : OneEach n ch) (k g : Nat) (hg : g < n) (hr : reach n ch k g = true) : reach n ch n g = true := by
  refine rests (n := n) (fun k g => reach n ch k g) (fun k g _ h => reach_up n ch k g h) ?_ k g hg hr
  intro k hs g hg hr
  have hr' : (((g : Int) == n) || reach n ch (k + 1) (nextG n ch g)) = true := hr
  show (((g : Int) == n) || reach n ch k (nextG n ch g)) = true
  rw [Bool.or_eq_true] at hr' ⊢
  rcases hr' with hr' | hr'
  · exact .inl hr'
  · refine .inr ?_
    obtain ⟨t, ht, e⟩ := next_in h hg
    rw [e] at hr' ⊢
    by_cases htn : t = n
    · rw [htn]; exact reach_n n ch k
    · exact hs t (by omega) hr'
theorem reach_wet {n : Nat} {ch : List Ch} (h : OneEach n ch) : ∀ (k t : Nat), t ≤ n → reach n ch k t = true → Wet n ch t
  | 0, t, _, hr => by
    have e : (t : Int) = n := by simpa [reach] using hr
    rw [e]; exact Wet.mouth
  | k + 1, t, ht, hr => by
    by_cases e : t = n
    · rw [e]; exact Wet.mouth
    · have hg : t < n := by omega
      rw [reach, Bool.or_eq_true] at hr
      rcases hr with hr | hr
      · simp at hr; omega
      · obtain ⟨c, hc, h1, h2⟩ := next_mem h hg
        obtain ⟨u, hu, e2⟩ := next_in h hg
        rw [e2] at hr
        have hw := reach_wet h k u hu hr
        rw [← h1]
        refine Wet.step c hc ?_
        rw [← h2, e2]
        exact hw
theorem wet_reach {n : Nat} {ch : List Ch} (h : OneEach n ch) {g : Int} (hw : Wet n ch g) : ∃ k, reach n ch k g = true := by
  induction hw with
  | mouth => exact ⟨0, reach_n n ch 0⟩
  | step c hc _ ih =>
    obtain ⟨k, hk⟩ := ih
    refine ⟨k + 1, ?_⟩
    rw [reach, next_only h hc, hk, Bool.or_true]
/-- all galleries drain by one channel from each, just if each way comes to the mouth within n steps -/
theorem wet_ways {n : Nat} {ch : List Ch} (hn : n ≤ 6) (h : OneEach n ch) : wetS n ch = allS n ↔ ∀ g : Nat, g < n → reach n ch n g = true := by
  rw [wetS_all hn h.1]
  constructor
  · intro hw g hg
    obtain ⟨k, hk⟩ := wet_reach h (hw g hg)
    exact reach_all h k g hg hk
  · intro hr g hg
    exact reach_wet h n g (by omega) (hr g hg)
end Go.Proofs.YtadamjleglckpaaGreat.drn

/- Package drain: the program's apart plans; dues: what they lead to in one step. -/
namespace Go.Proofs.YtadamjleglckpaaGreat.drn
theorem apartFrom_le (p : List Int) (ps : List (List Int)) : (apartFrom p ps).length ≤ ps.length := List.length_filter_le _ _
/-- more steps than plans change nothing -/
theorem apartF_more : ∀ (f g k : Nat) (ps : List (List Int)), ps.length < f → f ≤ g → apartF g k ps = apartF f k ps
  | 0, _, _, _, h, _ => by omega
  | f + 1, 0, _, _, _, h => by omega
  | f + 1, g + 1, k, [], _, _ => by cases k <;> rfl
  | f + 1, g + 1, 0, p :: r, _, _ => rfl
  | f + 1, g + 1, k + 1, p :: r, h, hg => by
    have hr : r.length < f := by simpa using h
    have ha := apartFrom_le p r
    rw [apartF, apartF, apartF_more f g k (apartFrom p r) (by omega) (by omega), apartF_more f g (k + 1) r hr (by omega)]
theorem apartS_nil (k : Nat) : apartS k [] = none := by cases k <;> rfl
theorem apartS_one (p : List Int) (r : List (List Int)) : apartS 0 (p :: r) = some [p] := rfl
theorem apartS_cons (k : Nat) (p : List Int) (r : List (List Int)) : apartS (k + 1) (p :: r) = match apartS k (apartFrom p r) with
    | some l => some (p :: l)
    | none => apartS (k + 1) r := by
  have ha := apartFrom_le p r
  have e1 : apartF (r.length + 1) k (apartFrom p r) = apartS k (apartFrom p r) := apartF_more _ _ k _ (by omega) (by omega)
  have e0 : apartS (k + 1) (p :: r) = match apartF (r.length + 1) k (apartFrom p r) with
    | some l => some (p :: l)
    | none => apartF (r.length + 1) (k + 1) r := rfl
  rw [e0, e1]
  rfl
theorem apartS_len : ∀ (k : Nat) (ps : List (List Int)) (l : List (List Int)), apartS k ps = some l → l.length = k + 1 ∧ l.length ≤ ps.length
  | k, [], l, h => by rw [apartS_nil] at h; cases h
  | 0, p :: r, l, h => by
    rw [apartS_one] at h
    injection h with h
    subst h
    simp
  | k + 1, p :: r, l, h => by
    have ha := apartFrom_le p r
    rw [apartS_cons] at h
    cases hm : apartS k (apartFrom p r) with
    | some m =>
      rw [hm] at h
      injection h with h
      subst h
      obtain ⟨h1, h2⟩ := apartS_len k (apartFrom p r) m hm
      simp only [List.length_cons]
      omega
    | none =>
      rw [hm] at h
      obtain ⟨h1, h2⟩ := apartS_len (k + 1) r l h
      exact ⟨h1, by rw [List.length_cons]; omega⟩
termination_by _ ps => ps.length
/-- k + 1 plans are apart only if k are -/
theorem apartS_less : ∀ (k : Nat) (ps : List (List Int)), apartS k ps = none → apartS (k + 1) ps = none
  | k, [], _ => apartS_nil _
  | 0, p :: r, h => by rw [apartS_one] at h; cases h
  | k + 1, p :: r, h => by
    have ha := apartFrom_le p r
    rw [apartS_cons] at h ⊢
    cases hm : apartS k (apartFrom p r) with
    | some m => rw [hm] at h; cases h
    | none =>
      rw [hm] at h
      rw [apartS_less k (apartFrom p r) hm]
      exact apartS_less (k + 1) r h
termination_by _ ps => ps.length
/-- so Most's loop stops at the greatest number -/
theorem mostS_spec (ps : List (List Int)) : apartS (mostS ps) ps = none ∧ ∀ k, k < mostS ps → (apartS k ps).isSome = true := by
  have hend : apartS ps.length ps = none := by
    cases h : apartS ps.length ps with
    | none => rfl
    | some l => have := apartS_len _ _ _ h; omega
  unfold mostS
  cases hf : (List.range (ps.length + 1)).find? fun k => (apartS k ps).isNone with
  | none =>
    have := List.find?_eq_none.1 hf ps.length (by simp)
    rw [hend] at this
    simp at this
  | some m =>
    obtain ⟨h1, a, b, e, h2⟩ := List.find?_eq_some_iff_append.1 hf
    refine ⟨by simpa using h1, fun k hk0 => ?_⟩
    have hk : k < m := hk0
    have hlen : a.length = m := by
      have hx : (List.range (ps.length + 1))[a.length]? = some m := by rw [e]; simp
      rw [List.getElem?_range] at hx
      · injection hx
      · have : a.length < (List.range (ps.length + 1)).length := by rw [e]; simp
        simpa using this
    have hka : k ∈ a := by
      have hx : (List.range (ps.length + 1))[k]? = some k := List.getElem?_range (by
        have : a.length < (List.range (ps.length + 1)).length := by rw [e]; simp
        simp at this; omega)
      rw [e, List.getElem?_append_left (by omega)] at hx
      exact List.mem_of_getElem? hx
    have := h2 k hka
    cases hh : apartS k ps with
    | some _ => rfl
    | none => rw [hh] at this; simp at this
end Go.Proofs.YtadamjleglckpaaGreat.drn

