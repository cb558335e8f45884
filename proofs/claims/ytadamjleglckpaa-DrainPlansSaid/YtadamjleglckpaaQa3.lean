/- Package drain: the first of the least, by a walk from the left; costs; the channels that leave. -/
import Derived.Test.YtadamjleglckpaaQa1
import Derived.Test.YtadamjleglckpaaQa2
import Derived.Lib.SliceRun
import Derived.Laws.OwnMore
import Derived.Laws.AppendOwnNone

namespace Go.Proofs.Ytadamjleglckpaa.drn
/-- keeping the one at hand unless the next is less -/
def keepMin {α : Type} (f : α → Nat) (b : Option α) (x : α) : Option α := match b with
  | none => some x
  | some y => if f x < f y then some x else some y
theorem keepMin_from {α : Type} (f : α → Nat) : ∀ (l : List α) (y : α), l.foldl (keepMin f) (some y) = match firstMin f l with
    | none => some y
    | some x => if f x < f y then some x else some y
  | [], y => rfl
  | z :: l, y => by
    rw [List.foldl_cons]
    have e : keepMin f (some y) z = if f z < f y then some z else some y := rfl
    rw [e, firstMin]
    by_cases h : f z < f y
    · rw [if_pos h, keepMin_from f l z]
      cases firstMin f l with
      | none => simp [h]
      | some x =>
        by_cases h2 : f x < f z
        · simp only [h2, if_true]
          rw [if_pos (by omega)]
        · simp only [h2, if_false]
          rw [if_pos h]
    · rw [if_neg h, keepMin_from f l y]
      cases firstMin f l with
      | none => simp [h]
      | some x =>
        by_cases h2 : f x < f z
        · simp only [h2, if_true]
        · simp only [h2, if_false]
          rw [if_neg h, if_neg (by omega)]
theorem keepMin_all {α : Type} (f : α → Nat) (l : List α) : l.foldl (keepMin f) none = firstMin f l := by
  cases l with
  | nil => rfl
  | cons z l =>
    rw [List.foldl_cons]
    have e : keepMin f none z = some z := rfl
    rw [e, keepMin_from, firstMin]
    cases firstMin f l with
    | none => rfl
    | some x => rfl
theorem firstMin_none {α : Type} (f : α → Nat) (l : List α) : firstMin f l = none ↔ l = [] := by
  cases l with
  | nil => simp [firstMin]
  | cons z l =>
    rw [firstMin]
    cases firstMin f l with
    | none => simp
    | some x => simp only; split <;> simp
/-- it is one of them, none is less, and all before it are greater -/
theorem firstMin_some {α : Type} (f : α → Nat) : ∀ (l : List α) (x : α), firstMin f l = some x ↔ ∃ a b, l = a ++ x :: b ∧ (∀ y ∈ a, f x < f y) ∧ ∀ y ∈ b, f x ≤ f y
  | [], x => by simp [firstMin]
  | z :: l, x => by
    rw [firstMin]
    cases hm : firstMin f l with
    | none =>
      have hl := (firstMin_none f l).1 hm
      subst hl
      simp only [Option.some.injEq]
      constructor
      · rintro rfl
        exact ⟨[], [], rfl, by simp, by simp⟩
      · rintro ⟨a, b, h, _, _⟩
        match a, h with
        | [], h => injection h
        | _ :: a, h => injection h with _ h; simp at h
    | some w =>
      obtain ⟨a, b, hl, h1, h2⟩ := (firstMin_some f l w).1 hm
      have hmin : ∀ y ∈ l, f w ≤ f y := by
        intro y hy
        rw [hl] at hy
        rcases List.mem_append.1 hy with hy | hy
        · have := h1 y hy; omega
        · rcases List.mem_cons.1 hy with rfl | hy
          · exact Nat.le_refl _
          · exact h2 y hy
      simp only
      by_cases hlt : f w < f z
      · rw [if_pos hlt]
        simp only [Option.some.injEq]
        constructor
        · rintro rfl
          exact ⟨z :: a, b, by rw [hl]; rfl, fun y hy => by rcases List.mem_cons.1 hy with rfl | hy; exact hlt; exact h1 y hy, h2⟩
        · rintro ⟨a', b', h, k1, k2⟩
          match a', h, k1 with
          | [], h, _ =>
            injection h with e1 e2
            subst e1; subst e2
            have hw : w ∈ l := by rw [hl]; simp
            have := k2 w hw
            omega
          | c :: a', h, k1 =>
            injection h with e1 e2
            have := (firstMin_some f l x).2 ⟨a', b', e2, fun y hy => k1 y (by simp [hy]), k2⟩
            rw [hm] at this
            injection this
      · rw [if_neg hlt]
        simp only [Option.some.injEq]
        constructor
        · rintro rfl
          exact ⟨[], l, rfl, by simp, fun y hy => by have := hmin y hy; omega⟩
        · rintro ⟨a', b', h, k1, k2⟩
          match a', h, k1 with
          | [], h, _ => injection h
          | c :: a', h, k1 =>
            injection h with e1 e2
            subst e1
            have hx : x ∈ l := by rw [e2]; simp
            have a1 := k1 z (by simp)
            have a2 := (firstMin_some f l x).2 ⟨a', b', e2, fun y hy => k1 y (by simp [hy]), k2⟩
            rw [hm] at a2
            injection a2 with e3
            subst e3
            omega
/-- costs are whole numbers from 0 to 280 -/
theorem costS_fold (cs : List Ch) : ∀ (l : List Int) (k : Int), l.foldl (fun k i => k + (cs.getD i.toNat (0, 0, 0)).2.2) k = k + costS cs l
  | [], k => by simp [costS]
  | i :: l, k => by
    have e : costS cs (i :: l) = l.foldl (fun k i => k + (cs.getD i.toNat (0, 0, 0)).2.2) (0 + (cs.getD i.toNat (0, 0, 0)).2.2) := rfl
    rw [List.foldl_cons, costS_fold cs l, e, costS_fold cs l]
    omega
theorem costS_cons (cs : List Ch) (i : Int) (l : List Int) : costS cs (i :: l) = (cs.getD i.toNat (0, 0, 0)).2.2 + costS cs l := by
  have e : costS cs (i :: l) = l.foldl (fun k i => k + (cs.getD i.toNat (0, 0, 0)).2.2) (0 + (cs.getD i.toNat (0, 0, 0)).2.2) := rfl
  rw [e, costS_fold]; omega
theorem costS_bd {n : Int} {cs : List Ch} (hc : ∀ c ∈ cs, ChOk n c) : ∀ l : List Int, 0 ≤ costS cs l ∧ costS cs l ≤ 20 * l.length
  | [] => by simp [costS]
  | i :: l => by
    obtain ⟨h1, h2⟩ := costS_bd hc l
    rw [costS_cons, List.length_cons]
    have hb : 0 ≤ (cs.getD i.toNat (0, 0, 0)).2.2 ∧ (cs.getD i.toNat (0, 0, 0)).2.2 ≤ 20 := by
      by_cases hi : i.toNat < cs.length
      · rw [List.getD_eq_getElem?_getD, List.getElem?_eq_getElem hi]
        obtain ⟨_, _, _, a, b⟩ := hc _ (List.getElem_mem hi)
        exact ⟨a, b⟩
      · rw [List.getD_eq_getElem?_getD, List.getElem?_eq_none (by omega)]
        exact ⟨by decide, by decide⟩
    omega
end Go.Proofs.Ytadamjleglckpaa.drn

/- Package drain: the program's apart plans; dues: what they lead to in one step. -/
namespace Go.Proofs.Ytadamjleglckpaa.drn
theorem apartFrom_le (p : List Int) (ps : List (List Int)) : (apartFrom p ps).length ≤ ps.length := List.length_filter_le _ _
/-- more steps than plans change nothing -/
theorem apartF_more : ∀ (f g k : Nat) (ps : List (List Int)), ps.length < f → f ≤ g → apartF g k ps = apartF f k ps
  | 0, _, _, _, h, _ => by omega
  | f + 1, 0, _, _, _, h => by omega
  | f + 1, g + 1, k, [], _, _ => by cases k <;> rfl
  | f + 1, g + 1, 0, p :: r, _, _ => rfl
  | f + 1, g + 1, k + 1, p :: r, h, hg => by
    have hr : r.length < f := by simpa using h
    have ha := apartFrom_le p r
    rw [apartF, apartF, apartF_more f g k (apartFrom p r) (by omega) (by omega), apartF_more f g (k + 1) r hr (by omega)]
theorem apartS_nil (k : Nat) : apartS k [] = none := by cases k <;> rfl
theorem apartS_one (p : List Int) (r : List (List Int)) : apartS 0 (p :: r) = some [p] := rfl
theorem apartS_cons (k : Nat) (p : List Int) (r : List (List Int)) : apartS (k + 1) (p :: r) = match apartS k (apartFrom p r) with
    | some l => some (p :: l)
    | none => apartS (k + 1) r := by
  have ha := apartFrom_le p r
  have e1 : apartF (r.length + 1) k (apartFrom p r) = apartS k (apartFrom p r) := apartF_more _ _ k _ (by omega) (by omega)
  have e0 : apartS (k + 1) (p :: r) = match apartF (r.length + 1) k (apartFrom p r) with
    | some l => some (p :: l)
    | none => apartF (r.length + 1) (k + 1) r := rfl
  rw [e0, e1]
  rfl
theorem apartS_len : ∀ (k : Nat) (ps : List (List Int)) (l : List (List Int)), apartS k ps = some l → l.length = k + 1 ∧ l.length ≤ ps.length
  | k, [], l, h => by rw [apartS_nil] at h; cases h
  | 0, p :: r, l, h => by
    rw [apartS_one] at h
    injection h with h
    subst h
    simp
  | k + 1, p :: r, l, h => by
    have ha := apartFrom_le p r
    rw [apartS_cons] at h
    cases hm : apartS k (apartFrom p r) with
    | some m =>
      rw [hm] at h
      injection h with h
      subst h
      obtain ⟨h1, h2⟩ := apartS_len k (apartFrom p r) m hm
      simp only [List.length_cons]
      omega
    | none =>
      rw [hm] at h
      obtain ⟨h1, h2⟩ := apartS_len (k + 1) r l h
      exact ⟨h1, by rw [List.length_cons]; omega⟩
termination_by _ ps => ps.length
/-- k + 1 plans are apart only if k are -/
theorem apartS_less : ∀ (k : Nat) (ps : List (List Int)), apartS k ps = none → apartS (k + 1) ps = none
  | k, [], _ => apartS_nil _
  | 0, p :: r, h => by rw [apartS_one] at h; cases h
  | k + 1, p :: r, h => by
    have ha := apartFrom_le p r
    rw [apartS_cons] at h ⊢
    cases hm : apartS k (apartFrom p r) with
    | some m => rw [hm] at h; cases h
    | none =>
      rw [hm] at h
      rw [apartS_less k (apartFrom p r) hm]
      exact apartS_less (k + 1) r h
termination_by _ ps => ps.length
/-- so Most's loop stops at the greatest number -/
theorem mostS_spec (ps : List (List Int)) : apartS (mostS ps) ps = none ∧ ∀ k, k < mostS ps → (apartS k ps).isSome = true := by
  have hend : apartS ps.length ps = none := by
    cases h : apartS ps.length ps with
    | none => rfl
    | some l => have := apartS_len _ _ _ h; omega
  unfold mostS
  cases hf : (List.range (ps.length + 1)).find? fun k => (apartS k ps).isNone with
  | none =>
    have := List.find?_eq_none.1 hf ps.length (by simp)
    rw [hend] at this
    simp at this
  | some m =>
    obtain ⟨h1, a, b, e, h2⟩ := List.find?_eq_some_iff_append.1 hf
    refine ⟨by simpa using h1, fun k hk0 => ?_⟩
    have hk : k < m := hk0
    have hlen : a.length = m := by
      have hx : (List.range (ps.length + 1))[a.length]? = some m := by rw [e]; simp
      rw [List.getElem?_range] at hx
      · injection hx
      · have : a.length < (List.range (ps.length + 1)).length := by rw [e]; simp
        simpa using this
    have hka : k ∈ a := by
      have hx : (List.range (ps.length + 1))[k]? = some k := List.getElem?_range (by
        have : a.length < (List.range (ps.length + 1)).length := by rw [e]; simp
        simp at this; omega)
      rw [e, List.getElem?_append_left (by omega)] at hx
      exact List.mem_of_getElem? hx
    have := h2 k hka
    cases hh : apartS k ps with
    | some _ => rfl
    | none => rw [hh] at this; simp at this
end Go.Proofs.Ytadamjleglckpaa.drn

/- Package drain: one channel more, and a channel that costs more (P2.14), plainly. -/
namespace Go.Proofs.Ytadamjleglckpaa.drn
/-- apart plans of a list are there in a longer one -/
theorem apartS_sub : ∀ (k : Nat) (ps qs : List (List Int)), ps.Sublist qs → (apartS k ps).isSome = true → (apartS k qs).isSome = true
  | k, ps, [], hs, h => by
    have e : ps = [] := List.sublist_nil.1 hs
    subst e
    rw [apartS_nil] at h
    cases h
  | 0, ps, q :: qs, _, _ => rfl
  | k + 1, ps, q :: qs, hs, h => by
    have ha := apartFrom_le q qs
    rw [apartS_cons]
    cases hm : apartS k (apartFrom q qs) with
    | some m => rfl
    | none =>
      show (apartS (k + 1) qs).isSome = true
      cases hs with
      | cons _ hs' => exact apartS_sub (k + 1) ps qs hs' h
      | @cons_cons ps' _ _ hs' =>
        rw [apartS_cons] at h
        cases hm2 : apartS k (apartFrom q ps') with
        | some m =>
          have h2 := apartS_sub k (apartFrom q ps') (apartFrom q qs) (List.Sublist.filter _ hs') (by rw [hm2]; rfl)
          rw [hm] at h2
          cases h2
        | none =>
          rw [hm2] at h
          exact apartS_sub (k + 1) ps' qs hs' h
termination_by _ _ qs => qs.length
theorem mostS_le {ps qs : List (List Int)} (hs : ps.Sublist qs) : mostS ps ≤ mostS qs := by
  obtain ⟨h1, _⟩ := mostS_spec qs
  obtain ⟨_, h2⟩ := mostS_spec ps
  rcases Nat.lt_or_ge (mostS qs) (mostS ps) with hlt | hge
  · have h3 := apartS_sub _ ps qs hs (h2 _ hlt)
    rw [h1] at h3
    cases h3
  · exact hge

/-- numbers of channels -/
def InR (cs : List Ch) (l : List Int) : Prop := ∀ x ∈ l, 0 ≤ x ∧ x < cs.length
theorem ext_in {cs : List Ch} : ∀ {l : List Int} {lo s : Nat}, Ext cs lo s l → InR cs l
  | [], _, _, _ => fun x hx => by cases hx
  | y :: r, lo, s, ⟨⟨h1, h2⟩, _, h3⟩ => fun x hx => by
    rcases List.mem_cons.1 hx with rfl | hx
    · exact ⟨by omega, h2⟩
    · exact ext_in h3 x hx
theorem getD_app (cs : List Ch) (c : Ch) {x : Int} (h0 : 0 ≤ x) (h : x < cs.length) : (cs ++ [c]).getD x.toNat (0, 0, 0) = cs.getD x.toNat (0, 0, 0) := by
  have hx : x.toNat < cs.length := by omega
  rw [List.getD_eq_getElem?_getD, List.getD_eq_getElem?_getD, List.getElem?_append_left hx]
theorem ext_app (cs : List Ch) (c : Ch) : ∀ (l : List Int) (lo s : Nat), (Ext (cs ++ [c]) lo s l ∧ ∀ x ∈ l, x < (cs.length : Int)) ↔ Ext cs lo s l
  | [], _, _ => by simp [Ext]
  | x :: r, lo, s => by
    have ih := ext_app cs c r (x.toNat + 1) (s ||| 1 <<< (frm cs x).toNat)
    constructor
    · rintro ⟨⟨⟨h1, h2⟩, h3, h4⟩, h5⟩
      have hx := h5 x (by simp)
      have e : frm (cs ++ [c]) x = frm cs x := by unfold frm; rw [getD_app cs c (by omega) hx]
      rw [e] at h3 h4
      exact ⟨⟨h1, hx⟩, h3, ih.1 ⟨h4, fun y hy => h5 y (by simp [hy])⟩⟩
    · rintro ⟨⟨h1, h2⟩, h3, h4⟩
      have e : frm (cs ++ [c]) x = frm cs x := by unfold frm; rw [getD_app cs c (by omega) h2]
      obtain ⟨k1, k2⟩ := ih.2 h4
      refine ⟨⟨⟨h1, by rw [List.length_append]; simp; omega⟩, by rw [e]; exact h3, by rw [e]; exact k1⟩, fun y hy => ?_⟩
      rcases List.mem_cons.1 hy with rfl | hy
      · exact h2
      · exact k2 y hy
theorem addS_app (cs : List Ch) (c : Ch) : ∀ (l : List Int) (s : Nat), InR cs l → addS (cs ++ [c]) s l = addS cs s l
  | [], _, _ => rfl
  | x :: r, s, h => by
    obtain ⟨h0, h1⟩ := h x (by simp)
    have e : frm (cs ++ [c]) x = frm cs x := by unfold frm; rw [getD_app cs c h0 h1]
    have ih := addS_app cs c r (s ||| 1 <<< (frm cs x).toNat) (fun y hy => h y (by simp [hy]))
    simp only [addS, List.foldl_cons, e] at *
    exact ih
theorem chosenS_app (cs : List Ch) (c : Ch) {l : List Int} (h : InR cs l) : chosenS (cs ++ [c]) l = chosenS cs l := by
  unfold chosenS
  exact List.map_congr_left fun x hx => getD_app cs c (h x hx).1 (h x hx).2
theorem costS_app (cs : List Ch) (c : Ch) : ∀ {l : List Int}, InR cs l → costS (cs ++ [c]) l = costS cs l
  | [], _ => rfl
  | x :: r, h => by
    obtain ⟨h0, h1⟩ := h x (by simp)
    rw [costS_cons, costS_cons, getD_app cs c h0 h1, costS_app cs c fun y hy => h y (by simp [hy])]
/-- the plans without the last channel -/
theorem plansS_app {n : Nat} {cs : List Ch} {c : Ch} (hn : 1 ≤ n) (hc : ∀ d ∈ cs ++ [c], ChOk n d) :
    plansS n cs = (plansS n (cs ++ [c])).filter fun l => l.all fun x => decide (x < (cs.length : Int)) := by
  have hc0 : ∀ d ∈ cs, ChOk n d := fun d hd => hc d (by simp [hd])
  refine (plans_only hn hc0 ((plansS_sorted n (cs ++ [c])).filter _) fun l => ?_).symm
  rw [List.mem_filter, mem_plansS hn hc]
  simp only [List.all_eq_true, decide_eq_true_eq]
  constructor
  · rintro ⟨⟨h1, h2, h3⟩, h4⟩
    have h5 := (ext_app cs c l 0 0).1 ⟨h1, h4⟩
    have hr := ext_in h5
    rw [addS_app cs c l 0 hr] at h2
    rw [chosenS_app cs c hr] at h3
    exact ⟨h5, h2, h3⟩
  · rintro ⟨h1, h2, h3⟩
    have hr := ext_in h1
    obtain ⟨h4, h5⟩ := (ext_app cs c l 0 0).2 h1
    exact ⟨⟨h4, by rw [addS_app cs c l 0 hr]; exact h2, by rw [chosenS_app cs c hr]; exact h3⟩, h5⟩
theorem count_more {n : Nat} {cs : List Ch} {c : Ch} (hn : 1 ≤ n) (hc : ∀ d ∈ cs ++ [c], ChOk n d) : (plansS n cs).length ≤ (plansS n (cs ++ [c])).length := by
  rw [plansS_app hn hc]
  exact List.length_filter_le _ _
theorem most_more {n : Nat} {cs : List Ch} {c : Ch} (hn : 1 ≤ n) (hc : ∀ d ∈ cs ++ [c], ChOk n d) : mostS (plansS n cs) ≤ mostS (plansS n (cs ++ [c])) := by
  rw [plansS_app hn hc]
  exact mostS_le List.filter_sublist

/-- what Least returns is the cost of a plan, and no plan costs less -/
theorem least_spec {n : Int} {cs : List Ch} (hc : ∀ c ∈ cs, ChOk n c) {ps : List (List Int)} (h : ps ≠ []) : ∃ p ∈ ps, leastS cs ps = costS cs p ∧ ∀ q ∈ ps, costS cs p ≤ costS cs q := by
  cases hm : firstMin (fun p => (costS cs p).toNat) ps with
  | none => exact absurd ((firstMin_none _ _).1 hm) h
  | some p =>
    obtain ⟨a, b, e, h1, h2⟩ := (firstMin_some _ _ _).1 hm
    refine ⟨p, by rw [e]; simp, by unfold leastS cheapS; rw [hm], fun q hq => ?_⟩
    have hp := costS_bd hc p
    have hq0 := costS_bd hc q
    rw [e] at hq
    rcases List.mem_append.1 hq with hq | hq
    · have := h1 q hq; omega
    · rcases List.mem_cons.1 hq with rfl | hq
      · omega
      · have := h2 q hq; omega
theorem least_more {n : Nat} {cs : List Ch} {c : Ch} (hn : 1 ≤ n) (hc : ∀ d ∈ cs ++ [c], ChOk n d) (h : plansS n cs ≠ []) :
    plansS n (cs ++ [c]) ≠ [] ∧ leastS (cs ++ [c]) (plansS n (cs ++ [c])) ≤ leastS cs (plansS n cs) := by
  have hc0 : ∀ d ∈ cs, ChOk n d := fun d hd => hc d (by simp [hd])
  obtain ⟨p, hp, e1, _⟩ := least_spec (n := n) hc0 h
  have hpl := (mem_plansS hn hc0 p).1 hp
  have hr := ext_in hpl.1
  have hp2 : p ∈ plansS n (cs ++ [c]) := by
    rw [plansS_app hn hc] at hp
    exact (List.mem_filter.1 hp).1
  have hne : plansS n (cs ++ [c]) ≠ [] := by intro e; rw [e] at hp2; cases hp2
  obtain ⟨p2, _, e2, h2⟩ := least_spec (n := n) hc hne
  have := h2 p hp2
  rw [costS_app cs c hr] at this
  exact ⟨hne, by rw [e1, e2]; exact this⟩

/-! a channel that costs more by 1 -/
def ends (c : Ch) : Int × Int := (c.1, c.2.1)
def dear (cs : List Ch) (p : Nat) : List Ch := cs.set p ((cs.getD p (0, 0, 0)).1, (cs.getD p (0, 0, 0)).2.1, (cs.getD p (0, 0, 0)).2.2 + 1)
theorem dear_at (cs : List Ch) (p : Nat) (hp : p < cs.length) (i : Nat) : (dear cs p).getD i (0, 0, 0) = if i = p then ((cs.getD p (0, 0, 0)).1, (cs.getD p (0, 0, 0)).2.1, (cs.getD p (0, 0, 0)).2.2 + 1) else cs.getD i (0, 0, 0) := by
  unfold dear
  rw [List.getD_eq_getElem?_getD, List.getElem?_set]
  by_cases h : p = i
  · subst h
    rw [if_pos rfl, if_pos rfl, if_pos hp]
    rfl
  · rw [if_neg h, if_neg fun e => h e.symm]
    rw [List.getD_eq_getElem?_getD (l := cs) (i := i)]
theorem dear_ends (cs : List Ch) (p : Nat) (hp : p < cs.length) (i : Nat) : ends ((dear cs p).getD i (0, 0, 0)) = ends (cs.getD i (0, 0, 0)) := by
  rw [dear_at cs p hp]
  by_cases h : i = p
  · rw [if_pos h, h]; rfl
  · rw [if_neg h]
theorem wetStep_alike (n : Nat) : ∀ (A B : List Ch) (d : Nat), A.map ends = B.map ends → wetStep n A d = wetStep n B d
  | [], [], _, _ => rfl
  | [], _ :: _, _, h => by cases h
  | _ :: _, [], _, h => by cases h
  | a :: A, b :: B, d, h => by
    simp only [List.map_cons, List.cons.injEq, ends, Prod.mk.injEq] at h
    obtain ⟨⟨h1, h2⟩, h3⟩ := h
    have ih := wetStep_alike n A B
    unfold wetStep at *
    rw [List.foldl_cons, List.foldl_cons, h1, h2]
    exact ih _ h3
theorem wetTo_alike (n : Nat) {A B : List Ch} (h : A.map ends = B.map ends) : ∀ k d, wetTo n A k d = wetTo n B k d
  | 0, _ => rfl
  | k + 1, d => by rw [wetTo, wetTo, wetStep_alike n A B d h]; exact wetTo_alike n h k _
theorem ext_alike {A B : List Ch} (hl : A.length = B.length) (h : ∀ i, ends (A.getD i (0, 0, 0)) = ends (B.getD i (0, 0, 0))) : ∀ (l : List Int) (lo s : Nat), Ext A lo s l → Ext B lo s l
  | [], _, _, _ => trivial
  | x :: r, lo, s, ⟨⟨h1, h2⟩, h3, h4⟩ => by
    have e : frm A x = frm B x := congrArg (fun z : Int × Int => z.1) (h x.toNat)
    rw [e] at h3 h4
    exact ⟨⟨h1, by omega⟩, h3, ext_alike hl h r _ _ h4⟩
theorem addS_alike {A B : List Ch} (h : ∀ i, ends (A.getD i (0, 0, 0)) = ends (B.getD i (0, 0, 0))) : ∀ (l : List Int) (s : Nat), addS A s l = addS B s l
  | [], _ => rfl
  | x :: r, s => by
    have e : frm A x = frm B x := congrArg (fun z : Int × Int => z.1) (h x.toNat)
    have ih := addS_alike h r
    simp only [addS, List.foldl_cons, e] at *
    exact ih _
theorem plan_alike {n : Nat} {A B : List Ch} (hl : A.length = B.length) (h : ∀ i, ends (A.getD i (0, 0, 0)) = ends (B.getD i (0, 0, 0))) {l : List Int} (hp : Plan n A l) : Plan n B l := by
  obtain ⟨h1, h2, h3⟩ := hp
  refine ⟨ext_alike hl h l 0 0 h1, by rw [← addS_alike h l 0]; exact h2, ?_⟩
  rw [← h3]
  refine (wetTo_alike n ?_ 7 0).symm
  unfold chosenS
  rw [List.map_map, List.map_map]
  exact List.map_congr_left fun x _ => h x.toNat
theorem dear_length (cs : List Ch) (p : Nat) : (dear cs p).length = cs.length := by unfold dear; simp
theorem dear_ok {n : Int} {cs : List Ch} (hc : ∀ c ∈ cs, ChOk n c) {p : Nat} (hp : p < cs.length) (h20 : (cs.getD p (0, 0, 0)).2.2 < 20) : ∀ c ∈ dear cs p, ChOk n c := by
  intro c hm
  obtain ⟨i, hi, rfl⟩ := List.getElem_of_mem hm
  rw [dear_length] at hi
  have e : (dear cs p)[i]'(by rw [dear_length]; exact hi) = (dear cs p).getD i (0, 0, 0) := by
    rw [List.getD_eq_getElem?_getD, List.getElem?_eq_getElem (by rw [dear_length]; exact hi)]; rfl
  rw [e, dear_at cs p hp]
  have hk : ChOk n (cs.getD p (0, 0, 0)) := hc _ (by rw [List.getD_eq_getElem?_getD, List.getElem?_eq_getElem hp]; exact List.getElem_mem hp)
  have hki : ChOk n (cs.getD i (0, 0, 0)) := hc _ (by rw [List.getD_eq_getElem?_getD, List.getElem?_eq_getElem hi]; exact List.getElem_mem hi)
  by_cases h : i = p
  · rw [if_pos h]
    obtain ⟨a, b, c, d, e⟩ := hk
    exact ⟨a, b, c, by show (0 : Int) ≤ _ + 1; omega, by show _ + (1 : Int) ≤ 20; omega⟩
  · rw [if_neg h]; exact hki
theorem plansS_dear {n : Nat} {cs : List Ch} (hn : 1 ≤ n) (hc : ∀ c ∈ cs, ChOk n c) {p : Nat} (hp : p < cs.length) (h20 : (cs.getD p (0, 0, 0)).2.2 < 20) : plansS n (dear cs p) = plansS n cs := by
  refine plans_only hn hc (plansS_sorted n _) fun l => ?_
  rw [mem_plansS hn (dear_ok hc hp h20)]
  exact ⟨plan_alike (dear_length cs p) (dear_ends cs p hp), plan_alike (dear_length cs p).symm fun i => (dear_ends cs p hp i).symm⟩
theorem cost_dear (cs : List Ch) {p : Nat} (hp : p < cs.length) : ∀ (l : List Int) (lo s : Nat), Ext cs lo s l →
    costS cs l ≤ costS (dear cs p) l ∧ costS (dear cs p) l ≤ costS cs l + 1 ∧ (p < lo → costS (dear cs p) l = costS cs l)
  | [], _, _, _ => ⟨Int.le_refl _, by show (0 : Int) ≤ 0 + 1; omega, fun _ => rfl⟩
  | x :: r, lo, s, ⟨⟨h1, h2⟩, _, h4⟩ => by
    obtain ⟨a, b, c⟩ := cost_dear cs hp r _ _ h4
    rw [costS_cons, costS_cons, dear_at cs p hp]
    by_cases h : x.toNat = p
    · rw [if_pos h]
      have := c (by omega)
      rw [h]
      refine ⟨?_, ?_, fun hlt => by omega⟩ <;> show _ ≤ _ <;> dsimp only <;> omega
    · rw [if_neg h]
      exact ⟨by omega, by omega, fun hlt => by have := c (by omega); omega⟩
theorem least_dear {n : Nat} {cs : List Ch} (hn : 1 ≤ n) (hc : ∀ c ∈ cs, ChOk n c) {p : Nat} (hp : p < cs.length) (h20 : (cs.getD p (0, 0, 0)).2.2 < 20) (h : plansS n cs ≠ []) :
    leastS cs (plansS n cs) ≤ leastS (dear cs p) (plansS n (dear cs p)) ∧ leastS (dear cs p) (plansS n (dear cs p)) ≤ leastS cs (plansS n cs) + 1 := by
  rw [plansS_dear hn hc hp h20]
  obtain ⟨p1, m1, e1, l1⟩ := least_spec (n := n) hc h
  obtain ⟨p2, m2, e2, l2⟩ := least_spec (n := n) (dear_ok hc hp h20) h
  have x1 := cost_dear cs hp p1 0 0 ((mem_plansS hn hc p1).1 m1).1
  have x2 := cost_dear cs hp p2 0 0 ((mem_plansS hn hc p2).1 m2).1
  have := l1 p2 m2
  have := l2 p1 m1
  rw [e1, e2]
  omega
end Go.Proofs.Ytadamjleglckpaa.drn

/- Package drain, the walks: hasChannel, chosen, costOf. -/
namespace Go.Proofs.Ytadamjleglckpaa.drn
open Go.RowKit
set_option linter.unusedSimpArgs false
set_option linter.unusedVariables false

theorem hasChannel_any (n : Int) (q : Option Addr) (m c : Nat) (i : Int) (w : World) :
    Calls Try.prog 46 #[hillV n q m c, .int .i64 i] w fun e w' => e = .returned (.bool (isGal m i)) ∧ Below w.heap.size w w' := by
  unfold hillV
  have hb0 : Below w.heap.size w (w.alloc (.cells #[.int .i64 n, .slice q m c] 24)) := (Below.refl _ _).alloc (Nat.le_refl _) _
  have HB := Lib.hid hb0
  clear hb0
  by_cases h : 0 ≤ i
  · have hi : decide (0 ≤ i) = true := by simpa using h
    go_enter Try.func46, Try.ntmps46
    go_wp2
    go_ret
    exact ⟨ret_bool (by simp [isGal, h]), HB.out⟩
  · have hi : ¬ 0 ≤ i := h
    go_enter Try.func46, Try.ntmps46
    go_wp2
    go_ret
    exact ⟨ret_bool (by simp [isGal]; omega), HB.out⟩

/-- append(list, c): channels -/
theorem app_ch (w : World) {ops : Array Oper} {rest : List Oper} {o : Oper} {a : Act} {Q : Exit → Act → World → Prop} (hgd : o.guard = none) (s x : Operand)
    (ho : o.op = .call { callee := .builtin .append, args := #[s, x], argTypes := #[75, 75] }) (base : Nat) (v : Value) (n : Nat) (xs : List Value) (f l : Value) (T : TypeId) (pl : Value) (hs : a.eval s = v)
    (hown : w.ownsRow base 85 3 v n xs) (B c : Nat) (hx : a.eval x = .slice (some ⟨B, 0, none⟩) 1 c)
    (hc1 : w.cell? ⟨B, 0, none⟩ = some f) (hc2 : w.cell? ⟨B, 1, none⟩ = some (.iface T pl)) (hc3 : w.cell? ⟨B, 2, none⟩ = some l) (hf1 : f.oneCell' = true) (hl1 : l.oneCell' = true) (hl : n ≤ 1000000) (hbase : base ≤ w.heap.size)
    (h : ∀ v' w', w'.ownsRow base 85 3 v' (n + 1) (xs ++ [f, .iface T pl, l]) → w.grownBy w' v.ownBlock → (v'.ownBlock = v.ownBlock ∨ v'.ownBlock = some w.heap.size) → wpList Try.prog ops Q rest (a.put o.dst v') w') :
    wpList Try.prog ops Q (o :: rest) a w := by
  refine app_one w hgd s x 75 ho base 85 _ 3 32 Try.underlying75 infoC rfl (by decide) (by decide) v n xs hs hown B c hx [f, .iface T pl, l] rfl ?_ ?_ hl hbase h
  · intro j u hj
    match j, hj with
    | 0, hj => simp at hj; subst hj; exact hc1
    | 1, hj => simp at hj; subst hj; exact hc2
    | 2, hj => simp at hj; subst hj; exact hc3
  · intro u hu
    simp at hu
    rcases hu with rfl | rfl | rfl
    · exact hf1
    · rfl
    · exact hl1

theorem flatC_map_take_succ (n : Nat) (cs : List Ch) (l : List Int) (k : Nat) (h : k < l.length) : flatC n (chosenS cs (l.take (k + 1))) = flatC n (chosenS cs (l.take k)) ++ [.int .i64 (cs.getD (l.getD k 0).toNat (0, 0, 0)).1, plV n (cs.getD (l.getD k 0).toNat (0, 0, 0)).2.1, .int .i64 (cs.getD (l.getD k 0).toNat (0, 0, 0)).2.2] := by
  unfold chosenS
  rw [map_take_succ _ l k 0 h, flatC_snoc]

set_option maxRecDepth 100000 in
set_option maxHeartbeats 1000000 in
theorem chosen_any (n : Nat) (q : Option Addr) (cap : Nat) (cs : List Ch) (q2 : Option Addr) (c2 : Nat) (l : List Int) (w : World) (hr : RowV w q (flatC n cs)) (hr2 : RowV w q2 (flatI l)) (hin : InR cs l) (hl : l.length ≤ 1000) (hm : cs.length ≤ 14) :
    Calls Try.prog 41 #[.slice q cs.length cap, .slice q2 l.length c2] w (RetV w 85 3 (chosenS cs l).length (flatC n (chosenS cs l))) := by
  obtain ⟨i0, hi, hz0, hz1, hz2⟩ := info_parts infoC
  have HI := Lib.hid hi
  have HZ0 := Lib.hid hz0
  have HZ1 := Lib.hid hz1
  have HZ2 := Lib.hid hz2
  have HIN := Lib.hid hin
  have hlen : (chosenS cs l).length = l.length := by simp [chosenS]
  have HLEN := Lib.hid hlen
  clear hi hz0 hz1 hz2 hin hlen
  go_enter Try.func41, Try.ntmps41
  go_wp2_with (at_make; refine wpList_make_own _ rfl (.const (.int .i64 0)) (.tmp 9) 75 rfl w.heap.size 85 i0 _ 3 Try.underlying75 HI.out HZ0.out HZ1.out .i64 .i64 l.length l.length rfl rfl rfl (by rw [HZ2.out]; omega) (by unfold maxLen; omega) (Nat.le_refl _) ?_; intro w1 hown1 hgrow1; have hb1 : Below w.heap.size w w1 := (Below.refl _ _).grown hgrow1 (Nat.le_refl _) (by simp))
  clear hgrow1
  go_loopw [5, 13] (fun v i wr => ∃ k : Nat, k ≤ l.length ∧ i = .int .i64 k ∧ wr.ownsRow w.heap.size 85 3 v k (flatC n (chosenS cs (l.take k))) ∧ Below w.heap.size w wr) (fun _ i _ => l.length - (intOf i).toNat)
  case atStart => exact ⟨0, Nat.zero_le _, rfl, by simpa [chosenS, flatC] using hown1, hb1⟩
  case round =>
    obtain ⟨k, hk, rfl, hown, hbel⟩ := hrel
    by_cases hlt : k < l.length
    · obtain ⟨b, off, rfl, hb, h1⟩ := rowI_at hr2 hlt (Nat.le_refl _) hbel
      have hx := HIN.out _ (getD_mem l k 0 hlt)
      have hst := flatC_map_take_succ n cs l k hlt
      generalize l.getD k 0 = x at h1 hx hst
      obtain ⟨x, rfl⟩ : ∃ m : Nat, x = m := ⟨x.toNat, by omega⟩
      have hxl : x < cs.length := by omega
      obtain ⟨b3, off3, rfl, hb3, g1, g2, g3⟩ := rowC_at hr hxl (Nat.le_refl _) hbel
      rw [Int.toNat_natCast] at hst
      generalize cs.getD x (0, 0, 0) = c at g1 g2 g3 hst
      obtain ⟨T, hT⟩ : ∃ T, plV n c.2.1 = .iface T (.int .i64 c.2.1) := ⟨_, rfl⟩
      rw [hT] at g2 hst
      have hxi : (x : Int) < (cs.length : Int) := by omega
      have HST := Lib.hid hst
      have HO := Lib.hid hown
      clear hst hown hT hx
      go_wp2_with (at_builtin; refine app_ch _ rfl (.tmp 17) (.tmp 22) rfl w.heap.size _ k _ (.int .i64 c.1) (.int .i64 c.2.2) T (.int .i64 c.2.1) rfl (HO.out.alloc _) wr.heap.size 1 rfl (by simp) (by simp) (by simp) rfl rfl (by omega) (by have := hbel.size; simp; omega) ?_; intro v2 w2 hown2 hgr2 hbk2; have hb2 : Below w.heap.size w w2 := hbel.trans (((Below.refl _ _).alloc hbel.size _).trans (grown_below (HO.out.alloc _) (by have := hbel.size; simp; omega) hgr2)))
      go_roundw
      case rel => exact ⟨k + 1, hlt, by go_num, by rw [HST.out]; exact hown2, hb2⟩
      case measure => simp [intOf]; omega
    · obtain rfl : k = l.length := by omega
      rw [List.take_length] at hown
      go_wp2
      go_ret
      exact ⟨_, rfl, by rw [HLEN.out]; exact hown, hbel⟩

theorem cost_take_succ (cs : List Ch) (l : List Int) (k : Nat) (h : k < l.length) : costS cs (l.take (k + 1)) = costS cs (l.take k) + (cs.getD (l.getD k 0).toNat (0, 0, 0)).2.2 := by
  unfold costS
  rw [foldl_take _ _ l k 0 h]
set_option maxRecDepth 100000 in
theorem costOf_any (n : Nat) (q : Option Addr) (cap : Nat) (cs : List Ch) (q2 : Option Addr) (c2 : Nat) (l : List Int) (w : World) (hc : Chs n cs) (hr : RowV w q (flatT cs)) (hr2 : RowV w q2 (flatI l)) (hin : InR cs l) (hl : l.length ≤ 1000) :
    Calls Try.prog 36 #[hillV n q cs.length cap, .slice q2 l.length c2] w fun e w' => e = .returned (.int .i64 (costS cs l)) ∧ Below w.heap.size w w' := by
  unfold hillV
  have hb0 : Below w.heap.size w (w.alloc (.cells #[.int .i64 n, .slice q cs.length cap] 24)) := (Below.refl _ _).alloc (Nat.le_refl _) _
  have hr0 := hr.below (Nat.le_refl _) hb0
  have hr20 := hr2.below (Nat.le_refl _) hb0
  have hbd : ∀ k, 0 ≤ costS cs (l.take k) ∧ costS cs (l.take k) ≤ 20000 := fun k => by
    have h := costS_bd hc.ok (l.take k)
    have : (l.take k).length ≤ 1000 := by rw [List.length_take]; omega
    omega
  have HBD := Lib.hid hbd
  have HIN := Lib.hid hin
  have HB := Lib.hid hb0
  have HC := Lib.hid hc
  have hcm := hc.many
  clear hbd hin hb0 hc
  go_enter Try.func36, Try.ntmps36
  go_wp2
  have hb0 := HB.out
  obtain ⟨W0, hW0⟩ : ∃ W0, w.alloc (.cells #[.int .i64 n, .slice q cs.length cap] 24) = W0 := ⟨_, rfl⟩
  have hz0 : w.heap.size < W0.heap.size := by rw [← hW0]; simp
  have hc0 : W0.cell? ⟨w.heap.size, 1, none⟩ = some (.slice q cs.length cap) := by rw [← hW0]; simp
  rw [hW0] at hr0 hr20 hb0 ⊢
  clear hW0 HB
  go_loop [5, 10] (fun v i => ∃ k : Nat, k ≤ l.length ∧ i = .int .i64 k ∧ v = .int .i64 (costS cs (l.take k))) (fun _ i => l.length - (intOf i).toNat)
  case atStart => exact ⟨0, Nat.zero_le _, rfl, rfl⟩
  case round =>
    obtain ⟨k, hk, rfl, rfl⟩ := hrel
    by_cases hlt : k < l.length
    · obtain ⟨b, off, rfl, hb, h1⟩ := rowI_at hr20 hlt (Nat.le_refl _) (Below.refl _ _)
      have hx := HIN.out _ (getD_mem l k 0 hlt)
      have hst := cost_take_succ cs l k hlt
      generalize l.getD k 0 = x at h1 hx hst
      obtain ⟨x, rfl⟩ : ∃ m : Nat, x = m := ⟨x.toNat, by omega⟩
      have hxl : x < cs.length := by omega
      obtain ⟨b3, off3, rfl, hb3, g1, g2, g3⟩ := rowT_at hr0 hxl (Nat.le_refl _) (Below.refl _ _)
      rw [Int.toNat_natCast] at hst
      have hk1 := HBD.out k
      have hk2 := HBD.out (k + 1)
      generalize cs.getD x (0, 0, 0) = c at g1 g2 g3 hst
      generalize costS cs (l.take k) = s at hst hk1 ⊢
      have hw : IntKind.i64.wrap (s + c.2.2) = s + c.2.2 := IntWalk.i64_in _ ⟨by omega, by omega⟩
      have hxi : (x : Int) < (cs.length : Int) := by omega
      have HST := Lib.hid hst
      clear hst hx hk1 hk2
      go_wp2
      go_round
      case rel => exact ⟨k + 1, hlt, by go_num, by rw [HST.out]⟩
      case measure => simp [intOf]; omega
    · obtain rfl : k = l.length := by omega
      rw [List.take_length]
      go_wp2
      go_ret
      exact ⟨rfl, hb0⟩
end Go.Proofs.Ytadamjleglckpaa.drn

/- Package drain, the walks: Valid, Cost. -/
namespace Go.Proofs.Ytadamjleglckpaa.drn
open Go.RowKit
set_option linter.unusedSimpArgs false
set_option linter.unusedVariables false

theorem planErr_at (cs : List Ch) (l : List Int) (k : Nat) (hk : k < l.length) (b : Option Int) (s : Nat) : planErr cs b s (l.drop k) =
    if !isGal cs.length (l.getD k 0) then (2, s) else if notUp b (l.getD k 0) then (7, s)
    else if inS s (cs.getD (l.getD k 0).toNat (0, 0, 0)).1 then (6, s) else planErr cs (some (l.getD k 0)) (s ||| 1 <<< (cs.getD (l.getD k 0).toNat (0, 0, 0)).1.toNat) (l.drop (k + 1)) := by
  rw [List.drop_eq_getElem_cons hk, ← getD_eq l k 0 hk]
  rfl
theorem planErr_ok (cs : List Ch) : ∀ (l : List Int) (b : Option Int) (s : Nat), (planErr cs b s l).1 = 0 → InR cs l ∧ l.Pairwise (· < ·) ∧ ∀ y, b = some y → ∀ x ∈ l, y < x
  | [], _, _, _ => ⟨(fun x hx => nomatch hx), List.Pairwise.nil, (fun y _ x hx => nomatch hx)⟩
  | i :: r, b, s, h => by
    rw [planErr] at h
    by_cases hg : isGal cs.length i = true
    · rw [hg] at h
      simp only [Bool.not_true, Bool.false_eq_true, if_false] at h
      by_cases hu : notUp b i = true
      · rw [if_pos hu] at h; simp at h
      · rw [if_neg hu] at h
        by_cases ht : inS s (cs.getD i.toNat (0, 0, 0)).1 = true
        · rw [if_pos ht] at h; simp at h
        · rw [if_neg ht] at h
          obtain ⟨i1, i2, i3⟩ := planErr_ok cs r _ _ h
          have hgl := (isGal_iff _ i).1 hg
          refine ⟨fun x hx => ?_, List.pairwise_cons.2 ⟨fun x hx => i3 i rfl x hx, i2⟩, fun y hy x hx => ?_⟩
          · rcases List.mem_cons.1 hx with rfl | hx
            · exact hgl
            · exact i1 x hx
          · subst hy
            have hlt : y < i := by simpa [notUp] using hu
            rcases List.mem_cons.1 hx with rfl | hx
            · exact hlt
            · have := i3 i rfl x hx; omega
    · have hg' : isGal cs.length i = false := by simpa using hg
      rw [hg'] at h
      simp at h
theorem chs_chosen {n : Nat} {cs : List Ch} (hc : Chs n cs) {l : List Int} (h : InR cs l) (hs : l.Pairwise (· < ·)) : Chs n (chosenS cs l) ∧ l.length ≤ 14 := by
  have hl : l.length ≤ 14 := Nat.le_trans (sorted_le h hs) hc.many
  refine ⟨⟨hc.n1, hc.n6, by simpa [chosenS] using hl, fun c hm => ?_⟩, hl⟩
  obtain ⟨i, hi, rfl⟩ := List.mem_map.1 hm
  exact getD_ok hc.ok (by have := h i hi; omega)
theorem inS_nat (s x : Nat) : inS s (x : Int) = s.testBit x := by simp [inS]

/-- where Valid's loop stands -/
structure AtV (n : Nat) (cs : List Ch) (l : List Int) (k s : Nat) : Prop where
  le : k ≤ l.length
  lt : s < 2 ^ n
  rest : planErr cs (before l k) s (l.drop k) = planErr cs none 0 l

set_option maxRecDepth 100000 in
set_option maxHeartbeats 2000000 in
theorem Valid_any (n : Int) (q : Option Addr) (cap : Nat) (cs : List Ch) (q2 : Option Addr) (c2 : Nat) (l : List Int) (w : World) (hr : RowV w q (flatT cs)) (hcap : cs.length ≤ cap) (hr2 : RowV w q2 (flatI l)) (hl : l.length ≤ 1000000) :
    Calls Try.prog 12 #[hillV n q cs.length cap, .slice q2 l.length c2] w fun e w' => e = .returned (.int .i64 (validOf n.toNat cs l)) ∧ Below w.heap.size w w' := by
  have hb0 : Below w.heap.size w (w.alloc (.cells #[.int .i64 n, .slice q cs.length cap] 24)) := (Below.refl _ _).alloc (Nat.le_refl _) _
  have c1 := Check_any n q cap cs _ (hr.below (Nat.le_refl _) hb0) hcap
  unfold hillV at c1 ⊢
  have C1 := Lib.hid c1
  have HB := Lib.hid hb0
  clear c1
  by_cases h0 : errD n cs = 0
  · obtain ⟨m, rfl, hchs⟩ := chs_of h0
    have hans : validOf ((m : Int).toNat) cs l = if (planErr cs none 0 l).1 ≠ 0 then (planErr cs none 0 l).1 else if (planErr cs none 0 l).2 ≠ allS m then 21 else if wetS m (chosenS cs l) ≠ allS m then 13 else 0 := by
      unfold validOf
      rw [Int.toNat_natCast, if_neg (by rw [h0]; simp)]
    obtain ⟨ans, hA⟩ : ∃ ans, validOf ((m : Int).toNat) cs l = ans := ⟨_, rfl⟩
    rw [hA] at hans ⊢
    have HANS := Lib.hid hans
    have HR := Lib.hid hr
    have HR2 := Lib.hid hr2
    have HCH := Lib.hid hchs
    have hn6 := hchs.n6
    have hcm := hchs.many
    rw [h0] at C1
    clear hans h0 hr hr2 hb0 hchs hA
    go_enter Try.func12, Try.ntmps12
    go_wp2_with (first
      | (go_at_call 45; refine C1.out.mono ?_; rintro e w1 ⟨rfl, hb1⟩; obtain ⟨hc1, hf1⟩ := bcell hb1; have hac1 : Below w.heap.size w w1 := HB.out.on hb1; have hz0 : w.heap.size < w1.heap.size := (by have := hb1.size; simp at this; omega))
      | (go_at_call 42; refine (channelsOf_any m q cap cs _ HCH.out (HR.out.below (Nat.le_refl _) hac1)).mono ?_; rintro e wB ⟨vB, rfl, hownB, hbB⟩; have hacB : Below w.heap.size w wB := hac1.on hbB; have hzB : w.heap.size < wB.heap.size := Nat.lt_of_lt_of_le hz0 hbB.size; obtain ⟨qB, cB, rfl, hrowB, _, _⟩ := rowV_of_owns hownB (by intro h; rw [List.length_eq_zero_iff] at h; rw [h]; rfl)))
    obtain ⟨d0, d1⟩ : w1.cell? ⟨w.heap.size, 0, none⟩ = some (.int .i64 m) ∧ w1.cell? ⟨w.heap.size, 1, none⟩ = some (.slice q cs.length cap) := ⟨by rw [hc1 _ _ (by simp)]; simp, by rw [hc1 _ _ (by simp)]; simp⟩
    have e0 := (hbB.cell (p := ⟨w.heap.size, 0, none⟩) hz0).trans d0
    have e1 := (hbB.cell (p := ⟨w.heap.size, 1, none⟩) hz0).trans d1
    have hr2B := HR2.out.below (Nat.le_refl _) hacB
    clear hc1 hf1 hb1 hac1 d0 d1 hownB hbB hz0
    go_loopw [7, 20] (fun v i wr => ∃ k s : Nat, i = .int .i64 k ∧ v = .int .u64 s ∧ AtV m cs l k s ∧ Below wB.heap.size wB wr) (fun _ i _ => l.length - (intOf i).toNat)
    case atStart => exact ⟨0, 0, rfl, rfl, ⟨Nat.zero_le _, Nat.two_pow_pos m, rfl⟩, Below.refl _ _⟩
    case round =>
      obtain ⟨k, s, rfl, rfl, hat, hbel⟩ := hrel
      obtain ⟨hk, hs, hrest⟩ := hat
      have hzr := hbel.size
      have f0 := (hbel.cell (p := ⟨w.heap.size, 0, none⟩) hzB).trans e0
      have f1 := (hbel.cell (p := ⟨w.heap.size, 1, none⟩) hzB).trans e1
      have hz2 : w.heap.size < wr.heap.size := Nat.lt_of_lt_of_le hzB hzr
      by_cases hlt : k < l.length
      · obtain ⟨b, off, rfl, hb, h1⟩ := rowI_at hr2B hlt (Nat.le_refl _) hbel
        have hst := planErr_at cs l k hlt (before l k) s
        rw [hrest] at hst
        obtain ⟨gg, hgg⟩ : ∃ gg, isGal cs.length (l.getD k 0) = gg := ⟨_, rfl⟩
        rw [hgg] at hst
        obtain ⟨x, hx⟩ : ∃ x, l.getD k 0 = x := ⟨_, rfl⟩
        rw [hx] at hst h1 hgg
        have hgal : ∀ W, Calls Try.prog 46 #[.agg #[.int .i64 m, .slice q cs.length cap], .int .i64 x] W fun e w' => e = .returned (.bool gg) ∧ Below W.heap.size W w' := fun W => by rw [← hgg]; exact hasChannel_any m q cs.length cap x W
        have hs64 := pow_64 hn6 hs
        have HGAL := Lib.hid hgal
        have HS := Lib.hid hs
        have HX := Lib.hid hx
        have HRE := Lib.hid hrest
        have hbz : b < wr.heap.size := Nat.lt_of_lt_of_le hb hzr
        have hk1 : (k : Int) < (l.length : Int) := by omega
        clear hgal hs hx hrest e0 e1
        cases gg with
        | false =>
          have HST := Lib.hid hst
          have HGG := Lib.hid hgg
          clear hst hgg
          go_wp2_with (go_at_call 46; refine (HGAL.out _).mono ?_; rintro e w3 ⟨rfl, hb3⟩)
          go_ret
          exact ⟨ret_int (by have h := HANS.out; rw [HST.out] at h; exact h.symm), hacB.on (hbel.on hb3)⟩
        | true =>
          have hx2 := (isGal_iff _ _).1 hgg
          obtain ⟨x, rfl⟩ : ∃ i : Nat, x = i := ⟨x.toNat, by omega⟩
          have hxl : x < cs.length := by omega
          obtain ⟨b3, off3, rfl, hb3z, g1, g2, g3⟩ := rowC_at hrowB hxl (Nat.le_refl _) hbel
          have hok := getD_ok HCH.out.ok hxl
          simp only [Bool.not_true, Bool.false_eq_true, if_false, Int.toNat_natCast] at hst
          generalize cs.getD x (0, 0, 0) = c at g1 g2 g3 hok hst
          obtain ⟨y, c2', c3'⟩ := c
          obtain ⟨⟨y0, y1⟩, _⟩ := hok
          dsimp only at *
          obtain ⟨y, rfl⟩ : ∃ i : Nat, y = i := ⟨y.toNat, by omega⟩
          have hy6 : y < 6 := by omega
          have ho := oneS_lt hy6
          have hor := or_u s (oneS y) (by omega) (by omega)
          have hsy : s ||| oneS y < 2 ^ m := Nat.or_lt_two_pow HS.out (by unfold oneS; rw [Nat.one_shiftLeft]; exact Nat.pow_lt_pow_right (by decide) (by omega))
          rw [inS_nat, Int.toNat_natCast, show s ||| 1 <<< y = s ||| oneS y from rfl] at hst
          have hxi : (x : Int) < (cs.length : Int) := by omega
          have HOR := Lib.hid hor
          have HSY := Lib.hid hsy
          clear hgg hx2 hor hsy g2 g3
          have hb3w : b3 < wr.heap.size := Nat.lt_of_lt_of_le hb3z hzr
          have hsl := HS.out
          cases k with
          | zero =>
            have h1' : wr.cell? ⟨b, off, none⟩ = some (.int .i64 x) := by simpa using h1
            rw [show notUp (before l 0) (x : Int) = false from rfl] at hst
            simp only [Bool.false_eq_true, if_false] at hst
            clear hsl
            cases hbit : s.testBit y with
            | true =>
              rw [hbit] at hst
              simp only [if_true] at hst
              have HST := Lib.hid hst
              have HBIT := Lib.hid hbit
              clear hst hbit
              go_wp2_with (first
                | (go_at_call 46; refine (HGAL.out _).mono ?_; rintro e w3 ⟨rfl, hb3⟩; obtain ⟨hc3, hf3⟩ := bcell hb3; have hzb3 : b < w3.heap.size := Nat.lt_of_lt_of_le hbz hb3.size; have hzc3 : b3 < w3.heap.size := Nat.lt_of_lt_of_le hb3w hb3.size)
                | (go_at_call 47; refine (in_any y s _ hy6 hs64).mono ?_; rintro e w4 ⟨hin, rfl⟩; rw [HBIT.out] at hin; subst hin))
              go_ret
              exact ⟨ret_int (by have h := HANS.out; rw [HST.out] at h; exact h.symm), hacB.on (hbel.on hb3)⟩
            | false =>
              rw [hbit] at hst
              simp only [Bool.false_eq_true, if_false] at hst
              have HST := Lib.hid hst
              have HBIT := Lib.hid hbit
              have hor := HOR.out
              clear hst hbit
              go_wp2_with (first
                | (go_at_call 46; refine (HGAL.out _).mono ?_; rintro e w3 ⟨rfl, hb3⟩; obtain ⟨hc3, hf3⟩ := bcell hb3; have hzb3 : b < w3.heap.size := Nat.lt_of_lt_of_le hbz hb3.size; have hzc3 : b3 < w3.heap.size := Nat.lt_of_lt_of_le hb3w hb3.size)
                | (go_at_call 47; refine (in_any y s _ hy6 hs64).mono ?_; rintro e w4 ⟨hin, rfl⟩; rw [HBIT.out] at hin; subst hin)
                | (go_at_call 48; refine (alone_any y _ hy6).mono ?_; rintro e w5 ⟨rfl, rfl⟩))
              refine ⟨⟨1, s ||| oneS y, by go_num, rfl, ⟨hlt, HSY.out, ?_⟩, hbel.on hb3⟩, ?_⟩
              · show planErr cs (some (l.getD (0) 0)) _ _ = _
                rw [HX.out]
                exact HST.out.symm
              · simp [intOf]; omega
          | succ j =>
            obtain ⟨b', off', e', hb', h2⟩ := rowI_at hr2B (show j < l.length by omega) (Nat.le_refl _) hbel
            injection e' with e'
            injection e' with e1 e2
            subst e1 e2
            rw [show before l (j + 1) = some (l.getD j 0) from rfl] at hst
            generalize hp : l.getD j 0 = p at h2 hst
            have ej : IntKind.i64.wrap (((j + 1 : Nat) : Int) - 1) = (j : Int) := by rw [show ((j + 1 : Nat) : Int) - 1 = (j : Int) by omega]; exact IntWalk.i64_in _ ⟨by omega, by omega⟩
            have hjl : (j : Int) < (l.length : Int) := by omega
            have hj0 : (0 : Int) < ((j + 1 : Nat) : Int) := by omega
            clear hp hsl
            by_cases hup : (x : Int) ≤ p
            · have hupb : notUp (some p) (x : Int) = true := by simpa [notUp] using hup
              rw [hupb] at hst
              simp only [if_true] at hst
              have HST := Lib.hid hst
              clear hst hupb
              go_wp2_with (go_at_call 46; refine (HGAL.out _).mono ?_; rintro e w3 ⟨rfl, hb3⟩; obtain ⟨hc3, hf3⟩ := bcell hb3; have hzb3 : b < w3.heap.size := Nat.lt_of_lt_of_le hbz hb3.size)
              go_ret
              exact ⟨ret_int (by have h := HANS.out; rw [HST.out] at h; exact h.symm), hacB.on (hbel.on hb3)⟩
            · have hupb : notUp (some p) (x : Int) = false := by simpa [notUp] using hup
              rw [hupb] at hst
              simp only [Bool.false_eq_true, if_false] at hst
              clear hupb
              cases hbit : s.testBit y with
              | true =>
                rw [hbit] at hst
                simp only [if_true] at hst
                have HST := Lib.hid hst
                have HBIT := Lib.hid hbit
                clear hst hbit
                go_wp2_with (first
                  | (go_at_call 46; refine (HGAL.out _).mono ?_; rintro e w3 ⟨rfl, hb3⟩; obtain ⟨hc3, hf3⟩ := bcell hb3; have hzb3 : b < w3.heap.size := Nat.lt_of_lt_of_le hbz hb3.size; have hzc3 : b3 < w3.heap.size := Nat.lt_of_lt_of_le hb3w hb3.size)
                  | (go_at_call 47; refine (in_any y s _ hy6 hs64).mono ?_; rintro e w4 ⟨hin, rfl⟩; rw [HBIT.out] at hin; subst hin))
                go_ret
                exact ⟨ret_int (by have h := HANS.out; rw [HST.out] at h; exact h.symm), hacB.on (hbel.on hb3)⟩
              | false =>
                rw [hbit] at hst
                simp only [Bool.false_eq_true, if_false] at hst
                have HST := Lib.hid hst
                have HBIT := Lib.hid hbit
                have hor := HOR.out
                clear hst hbit
                go_wp2_with (first
                  | (go_at_call 46; refine (HGAL.out _).mono ?_; rintro e w3 ⟨rfl, hb3⟩; obtain ⟨hc3, hf3⟩ := bcell hb3; have hzb3 : b < w3.heap.size := Nat.lt_of_lt_of_le hbz hb3.size; have hzc3 : b3 < w3.heap.size := Nat.lt_of_lt_of_le hb3w hb3.size)
                  | (go_at_call 47; refine (in_any y s _ hy6 hs64).mono ?_; rintro e w4 ⟨hin, rfl⟩; rw [HBIT.out] at hin; subst hin)
                  | (go_at_call 48; refine (alone_any y _ hy6).mono ?_; rintro e w5 ⟨rfl, rfl⟩))
                refine ⟨⟨j + 2, s ||| oneS y, by go_num, rfl, ⟨hlt, HSY.out, ?_⟩, hbel.on hb3⟩, ?_⟩
                · show planErr cs (some (l.getD (j + 1) 0)) _ _ = _
                  rw [HX.out]
                  exact HST.out.symm
                · simp [intOf]; omega
      · obtain rfl : k = l.length := by omega
        rw [List.drop_length] at hrest
        have hres : planErr cs none 0 l = (0, s) := by rw [← hrest]; cases before l l.length <;> rfl
        obtain ⟨hin, hsrt, _⟩ := planErr_ok cs l none 0 (by rw [hres])
        obtain ⟨hch2, hl14⟩ := chs_chosen HCH.out hin hsrt
        have ha := HANS.out
        rw [hres] at ha
        have hal := fun W => allOf_any m q cs.length cap W hn6
        have HAL := Lib.hid hal
        have HIN := Lib.hid hin
        have HC2 := Lib.hid hch2
        have HHA := Lib.hid ha
        have HS := Lib.hid hs
        clear hrest hres hsrt hin hch2 hal ha e0 e1 hs hk hlt
        go_wp2_with (first
          | (go_at_call 49; refine (HAL.out _).mono ?_; rintro e w3 ⟨rfl, hb3⟩; have hac3 : Below wB.heap.size wB w3 := hbel.on hb3)
          | (go_at_call 41; refine (chosen_any m qB cB cs q2 c2 l w3 (hrowB.below (Nat.le_refl _) hac3) (hr2B.below (Nat.le_refl _) hac3) HIN.out (by omega) hcm).mono ?_; rintro e w4 ⟨v4, rfl, hown4, hb4⟩; obtain ⟨q4, c4, rfl, hrow4, _, _⟩ := rowV_of_owns hown4 (by intro h; rw [List.length_eq_zero_iff] at h; rw [h]; rfl); have hac4 : Below wB.heap.size wB w4 := hac3.on hb4)
          | (go_at_call 50; refine (drained_any m q4 c4 _ w4 HC2.out hrow4).mono ?_; rintro e w5 ⟨rfl, hb5⟩))
        · have hne : ((s : Int) != (allS m : Nat)) = true := by assumption
          have hne2 : s ≠ allS m := by intro h; rw [h] at hne; simp at hne
          go_ret
          exact ⟨ret_int (by have h := HHA.out; rw [if_neg (by simp), if_pos hne2] at h; exact h.symm), hacB.on hac3⟩
        · have heq : ((s : Int) != (allS m : Nat)) = false := by assumption
          have heq2 : s = allS m := by have : (s : Int) = (allS m : Nat) := by simpa using heq
                                       omega
          have hne : (((wetS m (chosenS cs l) : Nat) : Int) != (s : Int)) = true := by assumption
          have hne2 : wetS m (chosenS cs l) ≠ allS m := by intro h; rw [h, heq2] at hne; simp at hne
          go_ret
          exact ⟨ret_int (by have h := HHA.out; rw [if_neg (by simp), if_neg (fun h => h heq2), if_pos hne2] at h; exact h.symm), (hacB.on hac4).on hb5⟩
        · have heq : ((s : Int) != (allS m : Nat)) = false := by assumption
          have heq2 : s = allS m := by have : (s : Int) = (allS m : Nat) := by simpa using heq
                                       omega
          have hne : (((wetS m (chosenS cs l) : Nat) : Int) != (s : Int)) = false := by assumption
          have hne2 : wetS m (chosenS cs l) = allS m := by have : ((wetS m (chosenS cs l) : Nat) : Int) = (s : Int) := by simpa using hne
                                                           omega
          go_ret
          exact ⟨ret_int (by have h := HHA.out; rw [if_neg (by simp), if_neg (fun h => h heq2), if_neg (fun h => h hne2)] at h; exact h.symm), (hacB.on hac4).on hb5⟩
  · have hans : validOf n.toNat cs l = errD n cs := by
      unfold validOf
      rw [errD_nat, if_pos h0]
    rw [hans]
    have hb : (errD n cs != 0) = true := by simpa using h0
    clear hans h0 hr hb0
    go_enter Try.func12, Try.ntmps12
    go_wp2_with (go_at_call 45; refine C1.out.mono ?_; rintro e w1 ⟨rfl, hb1⟩)
    go_ret
    exact ⟨rfl, HB.out.on hb1⟩
end Go.Proofs.Ytadamjleglckpaa.drn

/- slices.IndexFunc, DeleteFunc, MinFunc at sets, with whatever function that keeps what lies below. -/
namespace Go.Proofs.Ytadamjleglckpaa.drn
open Go.RowKit
set_option linter.unusedSimpArgs false
set_option linter.unusedVariables false

/-- a test of sets, in each world in which what lies below a bound is as it was -/
def TestS (B : Nat) (w : World) (pf : Nat) (lb : Array Value) (p : Nat → Bool) (xs : List Nat) : Prop :=
  ∀ (W : World) (s : Nat), s ∈ xs → Below B w W → B ≤ W.heap.size → Calls Try.prog pf (#[.int .u64 s] ++ lb) W fun e W' => e = .returned (.bool (p s)) ∧ Below W.heap.size W W'
def Enters (pf : Nat) : Prop := ∀ args w, (callFunc pf args).run Try.prog w = .ok (.enter pf args) w

set_option maxRecDepth 100000 in
theorem indexS_any (B pf : Nat) (lb : Array Value) (p : Nat → Bool) (eg : Enters pf) (q : Option Addr) (cap : Nat) (xs : List Nat) (w : World) (hB : B ≤ w.heap.size) (ht : TestS B w pf lb p xs) (hr : RowV w q (flatU xs)) (hl : xs.length ≤ 1000) :
    Calls Try.prog 96 #[.slice q xs.length cap, .func (.func pf) #[] lb] w fun e w' => e = .returned (.int .i64 (firstIdx p xs)) ∧ Below w.heap.size w w' := by
  have EG := Lib.hid eg
  have HT := Lib.hid ht
  clear eg ht
  go_enter Try.func96, Try.ntmps96
  go_wp2
  go_loopw [8] (fun i wr => ∃ k : Nat, k ≤ xs.length ∧ i = .int .i64 k ∧ AllNo p xs k ∧ Below w.heap.size w wr) (fun i _ => xs.length - (intOf i).toNat)
  case atStart => exact ⟨0, Nat.zero_le _, rfl, AllNo.zero _ _, Below.refl _ _⟩
  case round =>
    obtain ⟨k, hk, rfl, hall, hbel⟩ := hrel
    by_cases hlt : k < xs.length
    · obtain ⟨b, off, rfl, hb, h1⟩ := rowU_at hr hlt (Nat.le_refl _) hbel
      have hst := hall.step hlt 0
      have hm := getD_mem xs k 0 hlt
      generalize xs.getD k 0 = s at h1 hst hm
      have hcc := HT.out wr s hm (hbel.mono hB) (Nat.le_trans hB hbel.size)
      have HST := Lib.hid hst
      have HCC := Lib.hid hcc
      clear hst hcc
      go_wp2
      rw [EG.out, Oper.upon_enter]
      refine HCC.out.mono ?_
      rintro e w2 ⟨rfl, hb2⟩
      dsimp only
      obtain ⟨y, hy⟩ : ∃ y, p s = y := ⟨_, rfl⟩
      rw [hy]
      have HY := Lib.hid hy
      clear hy
      cases y with
      | true =>
        go_wp2
        go_ret
        exact ⟨ret_int (HST.out.2 HY.out).symm, hbel.on hb2⟩
      | false =>
        go_wp2
        go_roundw
        case rel => exact ⟨k + 1, hlt, by go_num, HST.out.1 HY.out, hbel.on hb2⟩
        case measure => simp [intOf]; omega
    · obtain rfl : k = xs.length := by omega
      go_wp2
      go_ret
      exact ⟨ret_int hall.all.symm, hbel⟩

/-- a comparison of sets by a number -/
def CmpS (B : Nat) (w : World) (pf : Nat) (lb : Array Value) (f : Nat → Nat) (xs : List Nat) : Prop :=
  ∀ (W : World) (s t : Nat), s ∈ xs → t ∈ xs → Below B w W → B ≤ W.heap.size → Calls Try.prog pf (#[.int .u64 s, .int .u64 t] ++ lb) W fun e W' => (∃ c : Int, e = .returned (.int .i64 c) ∧ (c < 0 ↔ f s < f t)) ∧ Below W.heap.size W W'

/-- the first with the least number, from one that is there -/
def minFrom (f : Nat → Nat) (m : Nat) : List Nat → Nat
  | [] => m
  | x :: r => minFrom f (if f x < f m then x else m) r
theorem minFrom_first (f : Nat → Nat) (x : Nat) (r : List Nat) : firstMin f (x :: r) = some (minFrom f x r) := by
  have h := keepMin_all f (x :: r)
  rw [List.foldl_cons] at h
  have e : ∀ (l : List Nat) (m : Nat), l.foldl (keepMin f) (some m) = some (minFrom f m l) := by
    intro l
    induction l with
    | nil => intro m; rfl
    | cons y l ih =>
      intro m
      rw [List.foldl_cons]
      show List.foldl (keepMin f) (keepMin f (some m) y) l = some (minFrom f (if f y < f m then y else m) l)
      rw [← ih]
      congr 1
      unfold keepMin
      by_cases hlt : f y < f m
      · simp [hlt]
      · simp [hlt]
  rw [← h]
  exact e r x
theorem minFrom_mem (f : Nat → Nat) : ∀ (r : List Nat) (m : Nat), minFrom f m r = m ∨ minFrom f m r ∈ r
  | [], m => .inl rfl
  | x :: r, m => by
    unfold minFrom
    by_cases h : f x < f m
    · rw [if_pos h]
      rcases minFrom_mem f r x with h | h
      · exact .inr (by rw [h]; simp)
      · exact .inr (by simp [h])
    · rw [if_neg h]
      rcases minFrom_mem f r m with h | h
      · exact .inl h
      · exact .inr (by simp [h])

set_option maxRecDepth 100000 in
theorem minS_any (B pf : Nat) (lb : Array Value) (f : Nat → Nat) (eg : Enters pf) (q : Option Addr) (cap : Nat) (x : Nat) (xs : List Nat) (w : World) (hB : B ≤ w.heap.size) (ht : CmpS B w pf lb f (x :: xs)) (hr : RowV w q (flatU (x :: xs))) (hl : (x :: xs).length ≤ 1000) :
    Calls Try.prog 61 #[.slice q (x :: xs).length cap, .func (.func pf) #[] lb] w fun e w' => e = .returned (.int .u64 (minFrom f x xs : Nat)) ∧ Below w.heap.size w w' := by
  obtain ⟨ys, hys⟩ : ∃ ys, x :: xs = ys := ⟨_, rfl⟩
  have hlen : ys.length = xs.length + 1 := by rw [← hys]; rfl
  have h0 : ys.getD 0 0 = x := by rw [← hys]; rfl
  have hdr : ys.drop 1 = xs := by rw [← hys]; rfl
  have hmem : x ∈ ys := by rw [← hys]; simp
  rw [hys] at ht hr hl ⊢
  have EG := Lib.hid eg
  have HT := Lib.hid ht
  have HLEN := Lib.hid hlen
  have HDR := Lib.hid hdr
  have HMEM := Lib.hid hmem
  have hpos : 0 < ys.length := by omega
  have hpos1 : ¬ (ys.length : Int) < 1 := by omega
  obtain ⟨b, off, rfl, hb, h1⟩ := rowU_at hr hpos (Nat.le_refl _) (Below.refl _ _)
  rw [h0] at h1
  clear eg ht hys hlen h0 hdr hmem
  have h1' : w.cell? ⟨b, off, none⟩ = some (.int .u64 x) := by simpa using h1
  go_enter Try.func61, Try.ntmps61
  go_wp2
  clear hpos1
  go_loopw [5, 6] (fun m i wr => ∃ (k m' : Nat), 1 ≤ k ∧ k ≤ ys.length ∧ i = .int .i64 k ∧ m = .int .u64 m' ∧ m' ∈ ys ∧ minFrom f m' (ys.drop k) = minFrom f x xs ∧ Below w.heap.size w wr) (fun _ i _ => ys.length - (intOf i).toNat)
  case atStart => exact ⟨1, x, Nat.le_refl _, hpos, rfl, rfl, HMEM.out, by rw [HDR.out], Below.refl _ _⟩
  case round =>
    obtain ⟨k, m, hk1, hk, rfl, rfl, hm, hmin, hbel⟩ := hrel
    by_cases hlt : k < ys.length
    · obtain ⟨b', off', e', hb', h2⟩ := rowU_at hr hlt (Nat.le_refl _) hbel
      injection e' with e'
      injection e' with e1 e2
      subst e1 e2
      have hst : ys.drop k = ys.getD k 0 :: ys.drop (k + 1) := by rw [List.drop_eq_getElem_cons hlt, getD_eq ys k 0 hlt]
      rw [hst] at hmin
      have hsm := getD_mem ys k 0 hlt
      generalize ys.getD k 0 = s at h2 hmin hsm
      have hcc := HT.out wr s m hsm hm (hbel.mono hB) (Nat.le_trans hB hbel.size)
      have HMIN := Lib.hid hmin
      have HCC := Lib.hid hcc
      have HM := Lib.hid hm
      have HSM := Lib.hid hsm
      clear hmin hcc hst h1 h1' hm hsm
      go_wp2
      rw [EG.out, Oper.upon_enter]
      refine HCC.out.mono ?_
      rintro e w2 ⟨⟨c, rfl, hc⟩, hb2⟩
      have h3 := (hb2.cell (p := ⟨b, off + k, none⟩) (Nat.lt_of_lt_of_le hb hbel.size)).trans h2
      have hbz : b < w2.heap.size := Nat.lt_of_lt_of_le hb (hbel.on hb2).size
      dsimp only
      by_cases hlf : f s < f m
      · have hneg : c < 0 := hc.2 hlf
        have HL := Lib.hid hlf
        clear hlf hc
        go_wp2
        go_roundw
        case rel => exact ⟨k + 1, s, by omega, hlt, by go_num, rfl, HSM.out, by have h := HMIN.out; rw [minFrom, if_pos HL.out] at h; exact h, hbel.on hb2⟩
        case measure => simp [intOf]; omega
      · have hneg : ¬ c < 0 := fun h => hlf (hc.1 h)
        have HL := Lib.hid hlf
        clear hlf hc
        go_wp2
        go_roundw
        case rel => exact ⟨k + 1, m, by omega, hlt, by go_num, rfl, HM.out, by have h := HMIN.out; rw [minFrom, if_neg HL.out] at h; exact h, hbel.on hb2⟩
        case measure => simp [intOf]; omega
    · obtain rfl : k = ys.length := by omega
      have hfin : m = minFrom f x xs := by rw [← hmin, List.drop_length]; rfl
      go_wp2
      go_ret
      exact ⟨by rw [← hfin]; rfl, hbel⟩

theorem own_prefix {w : World} {base : Nat} {e : TypeId} {g cap n i : Nat} {xs : List Value} (h : w.ownsRow base e 1 (.slice (some ⟨g, 0, none⟩) n cap) n xs) (hi : i ≤ n) : w.ownsRow base e 1 (.slice (some ⟨g, 0, none⟩) i cap) i (xs.take i) := by
  obtain ⟨h1, h2 | ⟨g', cap', cur, hv, hb, hh, hn, hm, hs, ht⟩⟩ := h
  · cases h2.1
  · cases hv
    refine ⟨by rw [List.length_take]; omega, .inr ⟨g, cap, cur, rfl, hb, hh, by omega, hm, hs, ?_⟩⟩
    rw [← ht, List.take_take, Nat.min_eq_left (by omega), Nat.mul_one]
theorem own_cells {base : Nat} {e : TypeId} {g cap n : Nat} : ∀ (vs : List Value) (o : Nat) (w : World) (xs : List Value), w.ownsRow base e 1 (.slice (some ⟨g, 0, none⟩) n cap) n xs →
    ∃ ys, (w.setCells g o vs).ownsRow base e 1 (.slice (some ⟨g, 0, none⟩) n cap) n ys ∧ ys.take o = xs.take o ∧ (base ≤ w.heap.size → Below base w (w.setCells g o vs))
  | [], o, w, xs, h => ⟨xs, h, rfl, fun _ => Below.refl _ _⟩
  | v :: r, o, w, xs, h => by
    obtain ⟨h1, h2⟩ := h.stored o v
    obtain ⟨ys, h3, h4, h5⟩ := own_cells r (o + 1) _ _ h1
    refine ⟨ys, h3, ?_, fun hb => ?_⟩
    · have h6 := congrArg (List.take o) h4
      rw [List.take_take, List.take_take, Nat.min_eq_left (by omega)] at h6
      rw [h6, List.take_set_of_le (by omega)]
    · have hbg : Below base w (w.setCell ⟨g, o, none⟩ v) := (Below.refl _ _).grown h2 hb fun k hk => by injection hk with hk; subst hk; exact (h.lt g rfl).1
      exact hbg.trans (h5 (by have := hbg.size; omega))
theorem own_base {w : World} {base : Nat} {e : TypeId} {size : Nat} {v : Value} {n : Nat} {xs : List Value} (h : w.ownsRow base e size v n xs) {b : Nat} (hb : b ≤ base) : w.ownsRow b e size v n xs := by
  obtain ⟨h1, h2 | ⟨g, cap, cur, hv, hg, r⟩⟩ := h
  · exact ⟨h1, .inl h2⟩
  · exact ⟨h1, .inr ⟨g, cap, cur, hv, Nat.le_trans hb hg, r⟩⟩

/-- how the row stands while DeleteFunc goes: i kept of the first j -/
def Kept (p : Nat → Bool) (xs C : List Nat) (i j : Nat) : Prop :=
  C.length = xs.length ∧ i ≤ j ∧ C.take i = (xs.take j).filter (fun x => !p x) ∧ ∀ t, j ≤ t → C.getD t 0 = xs.getD t 0
theorem Kept.keep {p : Nat → Bool} {xs C : List Nat} {i j : Nat} (h : Kept p xs C i j) (hi : i < j) (hj : j < xs.length) (hp : p (xs.getD j 0) = false) : Kept p xs (C.set i (xs.getD j 0)) (i + 1) (j + 1) := by
  obtain ⟨h1, h2, h3, h4⟩ := h
  refine ⟨by simpa using h1, by omega, ?_, fun t ht => ?_⟩
  · have hc : i < (C.set i (xs.getD j 0)).length := by simp; omega
    rw [getD_take _ i 0 hc, filter_take_succ _ xs j 0 hj, if_pos (by rw [hp]; rfl), List.take_set_of_le (Nat.le_refl _), h3]
    congr 1
    rw [getD_eq _ i 0 hc]
    simp
  · have := h4 t (by omega)
    rw [← this, List.getD_eq_getElem?_getD, List.getElem?_set_ne (by omega), ← List.getD_eq_getElem?_getD]
theorem Kept.skip {p : Nat → Bool} {xs C : List Nat} {i j : Nat} (h : Kept p xs C i j) (hj : j < xs.length) (hp : p (xs.getD j 0) = true) : Kept p xs C i (j + 1) := by
  obtain ⟨h1, h2, h3, h4⟩ := h
  refine ⟨h1, by omega, ?_, fun t ht => h4 t (by omega)⟩
  rw [filter_take_succ _ xs j 0 hj, if_neg (by rw [hp]; decide), List.append_nil, h3]
theorem firstIdx_case {α : Type} (f : α → Bool) : ∀ (l : List α) (d : α), (firstIdx f l = -1 ∧ ∀ x ∈ l, f x = false) ∨ ∃ k, k < l.length ∧ firstIdx f l = (k : Nat) ∧ f (l.getD k d) = true ∧ ∀ x ∈ l.take k, f x = false
  | [], _ => .inl ⟨rfl, by simp⟩
  | a :: l, d => by
    by_cases h : f a = true
    · exact .inr ⟨0, by simp, by simp [firstIdx, h], by simpa using h, by simp⟩
    · have hf : f a = false := by simpa using h
      rcases firstIdx_case f l d with ⟨e, ha⟩ | ⟨k, hk, e, ht, ha⟩
      · refine .inl ⟨by rw [firstIdx, if_neg h, if_pos (by omega)], fun x hx => ?_⟩
        rcases List.mem_cons.1 hx with rfl | hx
        · exact hf
        · exact ha x hx
      · refine .inr ⟨k + 1, by simpa using hk, by rw [firstIdx, if_neg h, if_neg (by omega), e]; omega, by simpa using ht, fun x hx => ?_⟩
        rw [List.take_succ_cons] at hx
        rcases List.mem_cons.1 hx with rfl | hx
        · exact hf
        · exact ha x hx
theorem flatU_set (C : List Nat) (i s : Nat) : (flatU C).set i (.int .u64 s) = flatU (C.set i s) := by unfold flatU; rw [List.map_set]
theorem flatU_take (C : List Nat) (i : Nat) : (flatU C).take i = flatU (C.take i) := by unfold flatU; rw [List.map_take]
theorem filter_none {p : Nat → Bool} {xs : List Nat} (h : ∀ x ∈ xs, p x = false) : xs.filter (fun x => !p x) = xs := by
  rw [List.filter_eq_self]
  intro x hx
  rw [h x hx]; rfl

set_option maxRecDepth 100000 in
theorem deleteS_any (B pf : Nat) (lb : Array Value) (p : Nat → Bool) (eg : Enters pf) (v : Value) (xs : List Nat) (w : World) (hB : B ≤ w.heap.size) (ht : TestS B w pf lb p xs) (hr : w.ownsRow B 82 1 v xs.length (flatU xs)) (hl : xs.length ≤ 1000) :
    Calls Try.prog 72 #[v, .func (.func pf) #[] lb] w fun e w' => ∃ v', e = .returned v' ∧ w'.ownsRow B 82 1 v' (xs.filter fun x => !p x).length (flatU (xs.filter fun x => !p x)) ∧ Below B w w' := by
  obtain ⟨q, cap, rfl, hrow, hqc, hqb⟩ := rowV_of_owns hr (by intro h0; rw [List.length_eq_zero_iff] at h0; rw [h0]; rfl)
  have hix := fun W hb => indexS_any B pf lb p eg q cap xs W (Nat.le_trans hB (Below.size hb)) (fun W2 s hs hb2 h2 => ht W2 s hs ((hb.mono hB).trans hb2) h2) (hrow.below (Nat.le_refl _) hb) hl
  have HIX := Lib.hid hix
  have EG := Lib.hid eg
  have HT := Lib.hid ht
  have HR := Lib.hid hr
  clear hix eg ht hr
  rcases firstIdx_case p xs 0 with ⟨e1, hall⟩ | ⟨k0, hk0, e1, hhit, hall⟩
  · rw [e1] at HIX
    have HF := Lib.hid (filter_none hall)
    clear hall e1
    go_enter Try.func72, Try.ntmps72
    go_wp2_with (go_at_call 96; refine (HIX.out _ (Below.refl _ _)).mono ?_; rintro e w1 ⟨rfl, hb1⟩)
    go_ret
    exact ⟨_, rfl, by rw [HF.out]; exact owns_below HR.out (Nat.le_refl _) hb1, hb1.mono hB⟩
  · rw [e1] at HIX
    obtain ⟨b, off, rfl, hbz, _⟩ := rowU_at hrow hk0 (Nat.le_refl _) (Below.refl _ _)
    have hoff : off = 0 := by
      obtain ⟨_, h2 | ⟨g, cap', cur, hv, _⟩⟩ := HR.out
      · cases h2.1
      · cases hv; rfl
    subst hoff
    have hcapn : xs.length ≤ cap := by
      obtain ⟨_, h2 | ⟨g, cap', cur, hv, hb, hh, hn, _⟩⟩ := HR.out
      · cases h2.1
      · cases hv; exact hn
    have hkept : Kept p xs xs k0 (k0 + 1) := by
      refine ⟨rfl, by omega, ?_, fun _ _ => rfl⟩
      rw [filter_take_succ _ xs k0 0 hk0, if_neg (by rw [hhit]; decide), List.append_nil, filter_none hall]
    have HK := Lib.hid hkept
    have hk1 : k0 < k0 + 1 := by omega
    have hneg : ((k0 : Int) == -1) = false := beq_eq_false_iff_ne.2 (by omega)
    clear hkept hall e1 hrow hqc hqb hhit
    go_enter Try.func72, Try.ntmps72
    go_wp2_with (go_at_call 96; refine (HIX.out _ (Below.refl _ _)).mono ?_; rintro e w1 ⟨rfl, hb1⟩)
    have hown1 := owns_below HR.out (Nat.le_refl _) hb1
    have hbw1 : Below B w w1 := hb1.mono hB
    have hz1 : B ≤ w1.heap.size := Nat.le_trans hB hb1.size
    clear hneg HR HIX hb1
    go_loopw [5, 6] (fun si sj wr => ∃ (i j : Nat) (C : List Nat), si = .int .i64 i ∧ sj = .int .i64 j ∧ i < j ∧ j ≤ xs.length ∧ Kept p xs C i j ∧ wr.ownsRow B 82 1 (.slice (some ⟨b, 0, none⟩) xs.length cap) xs.length (flatU C) ∧ Below B w wr ∧ B ≤ wr.heap.size ∧ b < wr.heap.size) (fun _ sj _ => xs.length - (intOf sj).toNat)
    case atStart => exact ⟨k0, k0 + 1, xs, rfl, by go_num, by omega, by omega, HK.out, hown1, hbw1, hz1, (hown1.lt b rfl).2⟩
    case round =>
      obtain ⟨i, j, C, rfl, rfl, hij, hjn, hkept, hown, hbel, hBz, hbz2⟩ := hrel
      by_cases hlt : j < xs.length
      · have hcl := hkept.1
        have hce := hown.cellAt j (by omega)
        rw [flatU_get C j (by omega), hkept.2.2.2 j (Nat.le_refl _)] at hce
        have hm := getD_mem xs j 0 hlt
        have hkeep := fun hp => hkept.keep hij hlt hp
        have hskip := fun hp => hkept.skip hlt hp
        generalize xs.getD j 0 = s at hce hm hkeep hskip
        have hcc := HT.out wr s hm hbel hBz
        have HKE := Lib.hid hkeep
        have HSK := Lib.hid hskip
        have HCC := Lib.hid hcc
        have HO := Lib.hid hown
        have HKT := Lib.hid hkept
        have HCL := Lib.hid hcl
        clear hkeep hskip hcc hown hkept hcl
        go_wp2
        rw [EG.out, Oper.upon_enter]
        refine HCC.out.mono ?_
        rintro e w2 ⟨rfl, hb2⟩
        dsimp only
        obtain ⟨y, hy⟩ : ∃ y, p s = y := ⟨_, rfl⟩
        rw [hy]
        have HY := Lib.hid hy
        have hown2 := owns_below HO.out (Nat.le_refl _) hb2
        have hbel2 : Below B w w2 := hbel.trans (hb2.mono hBz)
        have hBz2 : B ≤ w2.heap.size := Nat.le_trans hBz hb2.size
        have hbz3 : b < w2.heap.size := Nat.lt_of_lt_of_le hbz2 hb2.size
        clear hy hce
        cases y with
        | true =>
          have HO2 := Lib.hid hown2
          clear hown2
          go_wp2
          go_roundw
          case rel => exact ⟨i, j + 1, C, rfl, by go_num, by omega, hlt, HSK.out HY.out, HO2.out, hbel2, hBz2, hbz3⟩
          case measure => simp [intOf]; omega
        | false =>
          have hi := hown2.cellAt i (by have := HCL.out; omega)
          rw [flatU_get C i (by have := HCL.out; omega)] at hi
          have hfz := hown2.frozenAt i
          have hst := hown2.stored i (.int .u64 s)
          rw [flatU_set] at hst
          have hBw := fun h => (Below.refl B w2).grown hst.2 hBz2 h
          have hBk := hBw (fun k hk => by injection hk with hk; subst hk; exact (hown2.lt b rfl).1)
          have HST := Lib.hid hst
          have HBK := Lib.hid hBk
          clear hst hown2 hBw hBk
          go_wp2
          go_roundw
          case rel => exact ⟨i + 1, j + 1, C.set i s, by go_num, by go_num, by omega, hlt, HKE.out HY.out, HST.out.1, hbel2.trans HBK.out, by simpa using hBz2, by simpa using hbz3⟩
          case measure => simp [intOf]; omega
      · obtain rfl : j = xs.length := by omega
        have hzv : ∀ w, (zeroValue 82).run Try.prog w = .ok (.int .u64 0) w := fun w => by kernel_rfl
        have hcl2 : ∀ ty, (Builtin.clear_ #[102] ty #[.slice (some ⟨b, i, none⟩) (xs.length - i) (cap - i)]).run Try.prog wr = .ok (.tuple #[]) (wr.setCells b i (List.replicate (xs.length - i) (.int .u64 0))) :=
          fun ty => Lib.run_clear_slice wr _ _ ty _ Try.underlying102 hzv rfl rfl b i _ _ (by omega) (fun t ht => by rw [hown.cellAt (i + t) (by omega), flatU_get C _ (by have := hkept.1; omega)]; rfl) (fun t ht => hown.frozenAt _)
        obtain ⟨ys, ho, htk, hbk⟩ := own_cells (List.replicate (xs.length - i) (.int .u64 0)) i wr _ hown
        have hpre := own_prefix ho (show i ≤ xs.length by omega)
        rw [htk, flatU_take, hkept.2.2.1, List.take_length] at hpre
        have hil : i = (xs.filter fun x => !p x).length := by
          have h := congrArg List.length hkept.2.2.1
          rw [List.take_length, List.length_take] at h
          have := hkept.1
          omega
        have hfin := hbel.trans (hbk hBz)
        have HP := Lib.hid hpre
        have HI := Lib.hid hil
        have HF := Lib.hid hfin
        have hicap : ¬ (i : Int) = (cap : Int) := by omega
        have hicn : i < cap := by omega
        clear hpre hil hfin ho htk hbk hkept hown
        go_wp2
        go_ret
        exact ⟨_, rfl, by rw [← HI.out]; exact HP.out, HF.out⟩
end Go.Proofs.Ytadamjleglckpaa.drn

/- Package drain, the walks: wayFrom. -/
namespace Go.Proofs.Ytadamjleglckpaa.drn
open Go.RowKit
set_option linter.unusedSimpArgs false
set_option linter.unusedVariables false

theorem as_mg' (v : Value) (w : World) : (Instr.typeAssert (.iface 119 v) 73 83 true).run Try.prog w = .ok (.tuple #[.int .i64 0, .bool false]) w := by kernel_rfl
theorem as_mm' (v : Value) (w : World) : (Instr.typeAssert (.iface 119 v) 73 119 true).run Try.prog w = .ok (.tuple #[v, .bool true]) w := by kernel_rfl
theorem as_gg' (v : Value) (w : World) : (Instr.typeAssert (.iface 83 v) 73 83 true).run Try.prog w = .ok (.tuple #[v, .bool true]) w := by kernel_rfl
attribute [local go_sem ↓] as_mg' as_mm' as_gg'

theorem nextAt {n : Nat} {ch : List Ch} {xs : List Value} (h : OneEach n ch) (hx : ∀ j, j < ch.length → xs[(ch.getD j (0, 0, 0)).1.toNat]? = some (plV n (ch.getD j (0, 0, 0)).2.1)) (g : Nat) (hg : g < n) : xs[g]? = some (plV n (nextG n ch g)) := by
  obtain ⟨c, hc, e1, e2⟩ := next_mem h hg
  obtain ⟨j, hj, rfl⟩ := List.getElem_of_mem hc
  have := hx j hj
  rw [getD_eq ch j (0, 0, 0) hj, e1] at this
  rw [e2]
  simpa using this

set_option maxRecDepth 100000 in
set_option maxHeartbeats 1000000 in
theorem wayFrom_any (n : Nat) (g : Nat) (q : Option Addr) (cap : Nat) (ch : List Ch) (w : World) (hn : n ≤ 6) (hl : ch.length ≤ 14) (hg : g < n) (ho : OneEach n ch) (hall : ∀ g : Nat, g < n → reach n ch n g = true) (hr : RowV w q (flatC n ch)) :
    Calls Try.prog 39 #[plV n g, .slice q ch.length cap] w (RetV w 3 1 (wayF n ch n g).length (flatI (wayF n ch n g))) := by
  have e : plV n g = .iface 83 (.int .i64 g) := by simp only [plV]; rw [if_neg (by omega)]
  have HO := Lib.hid ho
  have HALL := Lib.hid hall
  have HE := Lib.hid e
  rw [e]
  clear ho hall e
  go_enter Try.func39, Try.ntmps39
  go_wp2
  obtain ⟨W0, hW0⟩ : ∃ W0, w.alloc (.cells #[.nilIface, .nilIface, .nilIface, .nilIface, .nilIface, .nilIface] 118) = W0 := ⟨_, rfl⟩
  have hown0 : W0.ownsRow w.heap.size 118 1 (.slice (some ⟨w.heap.size, 0, none⟩) 6 6) 6 [.nilIface, .nilIface, .nilIface, .nilIface, .nilIface, .nilIface] := by
    rw [← hW0]
    exact World.ownsRow_lit (base := w.heap.size) (e := 118) (size := 1) w #[.nilIface, .nilIface, .nilIface, .nilIface, .nilIface, .nilIface] 6 (Nat.le_refl _) (by decide) rfl
  have hb0 : Below w.heap.size w W0 := by rw [← hW0]; exact (Below.refl _ _).alloc (Nat.le_refl _) _
  rw [hW0]
  clear hW0
  go_loopw [13] (fun i wr => ∃ (k : Nat) (xs : List Value), k ≤ ch.length ∧ i = .int .i64 k ∧ wr.ownsRow w.heap.size 118 1 (.slice (some ⟨w.heap.size, 0, none⟩) 6 6) 6 xs ∧ (∀ j, j < k → xs[(ch.getD j (0, 0, 0)).1.toNat]? = some (plV n (ch.getD j (0, 0, 0)).2.1)) ∧ Below w.heap.size w wr) (fun i _ => ch.length - (intOf i).toNat)
  case atStart => exact ⟨0, _, Nat.zero_le _, rfl, hown0, fun j hj => absurd hj (Nat.not_lt_zero j), hb0⟩
  case round =>
    obtain ⟨k, xs, hk, rfl, hown, hset, hbel⟩ := hrel
    have hxl : xs.length = 6 := hown.1
    have hzw := (hown.lt w.heap.size rfl).2
    by_cases hlt : k < ch.length
    · obtain ⟨b, off, rfl, hb, h1, h2, h3⟩ := rowC_at hr hlt (Nat.le_refl _) hbel
      have hok := HO.out.1 _ (getD_mem ch k (0, 0, 0) hlt)
      have hpw := HO.out.2.2
      have hother : ∀ j, j < k → (ch.getD j (0, 0, 0)).1.toNat ≠ (ch.getD k (0, 0, 0)).1.toNat := by
        intro j hj e
        rw [getD_eq ch j (0, 0, 0) (by omega), getD_eq ch k (0, 0, 0) hlt] at e
        have h4 := List.pairwise_iff_getElem.1 hpw j k (by omega) hlt hj
        have a1 := (HO.out.1 _ (List.getElem_mem (show j < ch.length by omega))).1.1
        have a2 := (HO.out.1 _ (List.getElem_mem hlt)).1.1
        exact h4 (by omega)
      have hset2 : ∀ u : Value, u = plV n (ch.getD k (0, 0, 0)).2.1 → ∀ j, j < k + 1 → (xs.set (ch.getD k (0, 0, 0)).1.toNat u)[(ch.getD j (0, 0, 0)).1.toNat]? = some (plV n (ch.getD j (0, 0, 0)).2.1) := by
        intro u hu j hj
        by_cases hjk : j = k
        · subst hjk
          have := hok.1.2
          rw [List.getElem?_set_self (by have := hok.1.1; omega), hu]
        · rw [List.getElem?_set_ne (fun e => hother j (by omega) e.symm)]
          exact hset j (by omega)
      generalize ch.getD k (0, 0, 0) = c at h1 h2 h3 hok hset2
      obtain ⟨x, y, z⟩ := c
      obtain ⟨⟨x0, x1⟩, _⟩ := hok
      dsimp only at *
      obtain ⟨x, rfl⟩ : ∃ i : Nat, x = i := ⟨x.toNat, by omega⟩
      rw [Int.toNat_natCast] at hset2
      obtain ⟨T, hT⟩ : ∃ T, plV n y = .iface T (.int .i64 y) := ⟨_, rfl⟩
      rw [hT] at h2
      have hs2 := hset2 _ hT.symm
      have hx6 : x < 6 := by omega
      have hxi : (x : Int) < 6 := by omega
      have howa := hown.alloc (.cells #[.int .i64 x, .iface T (.int .i64 y), .int .i64 z] 85)
      have hce := howa.cellAt x (by omega)
      have hfz := howa.frozenAt x
      have hst := hown.stored x (.iface T (.int .i64 y))
      have hxs : (xs[x]?) = some xs[x] := List.getElem?_eq_getElem (by omega)
      rw [hxs] at hce
      have hbA := hbel.grown hst.2 hbel.size (fun k hk => by injection hk with hk; omega)
      have HST := Lib.hid hst.1
      have HS2 := Lib.hid hs2
      have HBA := Lib.hid hbA
      clear hst hs2 hset2 hset hother hpw hown howa hT hbA
      go_wp2
      go_roundw
      case rel => exact ⟨k + 1, _, hlt, by go_num, HST.out.alloc _, HS2.out, HBA.out.alloc HBA.out.size _⟩
      case measure => simp [intOf]; omega
    · obtain rfl : k = ch.length := by omega
      have hnx : ∀ g : Nat, g < n → xs[g]? = some (plV n (nextG n ch g)) := nextAt HO.out hset
      have hr0 := HALL.out g hg
      have HNX := Lib.hid hnx
      have HR0 := Lib.hid hr0
      have HOW := Lib.hid hown
      clear hnx hr0 hset hown hown0 hb0
      obtain ⟨W1, rfl⟩ : ∃ W : World, W = wr := ⟨_, rfl⟩
      go_wp2
      go_loopg [0, 8] n (fun f p v w2 => ∃ (h : Nat) (acc : List Int), h ≤ n ∧ p = plV n h ∧ reach n ch f h = true ∧ acc ++ wayF n ch f h = wayF n ch n g ∧ f + acc.length ≤ n ∧ w2.ownsRow W1.heap.size 3 1 v acc.length (flatI acc) ∧ Below W1.heap.size W1 w2)
      case atStart => exact ⟨g, [], by omega, by rw [HE.out], HR0.out, rfl, by simp, World.ownsRow_nil _ _ _ _, Below.refl _ _⟩
      case round =>
        obtain ⟨h, acc, hhn, rfl, hrch, hacc, hfa, howi, hbel2⟩ := hrel
        have hsz := hbel2.size
        have hal14 : acc.length ≤ 1000 := by omega
        by_cases hh : h = n
        · subst hh
          have e1 : plV h h = .iface 119 (.int .i64 h) := by simp [plV]
          have e2 : wayF h ch gk h = [(h : Int)] := by cases gk <;> simp [wayF]
          rw [e1]
          rw [e2] at hacc
          have HACC := Lib.hid hacc
          have HOI := Lib.hid howi
          clear hacc howi e1 e2 hrch HE
          go_wp2_with (at_builtin; refine app_int _ rfl (.tmp 37) (.tmp 39) rfl W1.heap.size u8 acc (h : Int) rfl (HOI.out.alloc _) wr.heap.size 1 rfl (by simp) (by omega) (by simp; omega) ?_; intro v2 w2 hown2 hgr2 hbk2; have hb2 : Below W1.heap.size W1 w2 := hbel2.trans (((Below.refl _ _).alloc hbel2.size _).trans (grown_below (HOI.out.alloc _) (by simp; omega) hgr2)))
          go_ret
          exact ⟨v2, rfl, by rw [← HACC.out]; exact own_base hown2 hbel.size, hbel.on hb2⟩
        · have hlt : h < n := by omega
          have e1 : plV n h = .iface 83 (.int .i64 h) := by simp only [plV]; rw [if_neg (by omega)]
          have hne : ((h : Int) == (n : Int)) = false := beq_eq_false_iff_ne.2 (by omega)
          obtain ⟨f, rfl⟩ : ∃ f, gk = f + 1 := by
            cases gk with
            | zero => simp only [reach] at hrch; rw [hne] at hrch; cases hrch
            | succ f => exact ⟨f, rfl⟩
          obtain ⟨t, ht, htn⟩ := next_in HO.out hlt
          have hr2 : reach n ch f (t : Int) = true := by
            simp only [reach] at hrch
            rw [hne, Bool.false_or, htn] at hrch
            exact hrch
          have e2 : wayF n ch (f + 1) h = (h : Int) :: wayF n ch f t := by
            have e3 : wayF n ch (f + 1) h = if (h : Int) = n then [(h : Int)] else (h : Int) :: wayF n ch f (nextG n ch h) := rfl
            rw [e3, if_neg (by omega), htn]
          rw [e2] at hacc
          have hcell := HOW.out.cellAt h (by omega)
          rw [HNX.out h hlt, htn] at hcell
          have hzW := (HOW.out.lt w.heap.size rfl).2
          have hcell2 := (hbel2.cell (p := ⟨w.heap.size, h, none⟩) hzW).trans hcell
          have hh6 : (h : Int) < 6 := by omega
          rw [e1]
          have HACC := Lib.hid hacc
          have HOI := Lib.hid howi
          have HR2 := Lib.hid hr2
          clear hacc howi e1 e2 hrch hr2 hcell hne htn HE
          go_wp2_with (at_builtin; refine app_int _ rfl (.tmp 27) (.tmp 29) rfl W1.heap.size u8 acc (h : Int) rfl (HOI.out.alloc _) wr.heap.size 1 rfl (by simp) (by omega) (by simp; omega) ?_; intro v2 w2 hown2 hgr2 hbk2; have hb2 : Below W1.heap.size W1 w2 := hbel2.trans (((Below.refl _ _).alloc hbel2.size _).trans (grown_below (HOI.out.alloc _) (by simp; omega) hgr2)); have hcell3 := (hb2.cell (p := ⟨w.heap.size, h, none⟩) hzW).trans ((hbel2.cell (p := ⟨w.heap.size, h, none⟩) hzW).symm.trans hcell2))
          go_roundg f
          case measure => omega
          case rel => exact ⟨t, acc ++ [(h : Int)], ht, rfl, HR2.out, by rw [← HACC.out]; simp, by simp; omega, hown2, hb2⟩
end Go.Proofs.Ytadamjleglckpaa.drn

/- Lists of lists of ints in memory; clones; appends of whole lists. -/
namespace Go.Proofs.Ytadamjleglckpaa.drn
open Go.RowKit
set_option linter.unusedSimpArgs false
set_option linter.unusedVariables false

/-- pairs of values and lists -/
def InL (R : Value → List Int → Prop) : List Value → List (List Int) → Prop
  | [], [] => True
  | v :: vs, l :: ls => R v l ∧ InL R vs ls
  | _, _ => False
theorem InL.len {R : Value → List Int → Prop} : ∀ {vs : List Value} {ls : List (List Int)}, InL R vs ls → vs.length = ls.length
  | [], [], _ => rfl
  | _ :: _, _ :: _, h => by simp [InL.len h.2]
  | [], _ :: _, h => h.elim
  | _ :: _, [], h => h.elim
theorem InL.mono {R S : Value → List Int → Prop} (hRS : ∀ v l, R v l → S v l) : ∀ {vs : List Value} {ls : List (List Int)}, InL R vs ls → InL S vs ls
  | [], [], _ => trivial
  | _ :: _, _ :: _, h => ⟨hRS _ _ h.1, InL.mono hRS h.2⟩
  | [], _ :: _, h => h.elim
  | _ :: _, [], h => h.elim
theorem InL.app {R : Value → List Int → Prop} : ∀ {vs us : List Value} {ls ks : List (List Int)}, InL R vs ls → InL R us ks → InL R (vs ++ us) (ls ++ ks)
  | [], _, [], _, _, h => h
  | _ :: _, _, _ :: _, _, h, k => ⟨h.1, InL.app h.2 k⟩
  | [], _, _ :: _, _, h, _ => h.elim
  | _ :: _, _, [], _, h, _ => h.elim
theorem InL.get {R : Value → List Int → Prop} : ∀ {vs : List Value} {ls : List (List Int)} (i : Nat), InL R vs ls → i < ls.length → ∃ v, vs[i]? = some v ∧ R v (ls.getD i [])
  | v :: vs, l :: ls, 0, h, _ => ⟨v, rfl, h.1⟩
  | v :: vs, l :: ls, i + 1, h, hi => by
    obtain ⟨u, h1, h2⟩ := InL.get i h.2 (by simpa using hi)
    exact ⟨u, by simpa using h1, by simpa using h2⟩
  | [], [], i, _, hi => by simp at hi
  | [], _ :: _, _, h, _ => h.elim
  | _ :: _, [], _, h, _ => h.elim
theorem InL.all {R : Value → List Int → Prop} {Q : Value → Prop} (hRQ : ∀ v l, R v l → Q v) : ∀ {vs : List Value} {ls : List (List Int)}, InL R vs ls → ∀ v ∈ vs, Q v
  | [], [], _ => by simp
  | v :: vs, l :: ls, h => fun u hu => by
    rcases List.mem_cons.1 hu with rfl | hu
    · exact hRQ _ _ h.1
    · exact InL.all hRQ h.2 u hu
  | [], _ :: _, h => h.elim
  | _ :: _, [], h => h.elim

theorem inL_mem {R S : Value → List Int → Prop} : ∀ {vs : List Value} {ls : List (List Int)}, (∀ v, ∀ l ∈ ls, R v l → S v l) → InL R vs ls → InL S vs ls
  | [], [], _, _ => trivial
  | _ :: _, _ :: _, h, k => ⟨h _ _ (by simp) k.1, inL_mem (fun v l hl => h v l (by simp [hl])) k.2⟩
  | [], _ :: _, _, h => h.elim
  | _ :: _, [], _, h => h.elim
/-- a list of ints in memory, in new memory or where it was handed in -/
def NewI (w : World) (lo : Nat) (qb : Option Addr) (v : Value) (l : List Int) : Prop := ∃ q c, v = .slice q l.length c ∧ RowV w q (flatI l) ∧ (q = none → c = 0) ∧ (q = qb ∨ ∀ a, q = some a → lo ≤ a.block)
/-- what plansFrom answers -/
def ManyL (w : World) (qb : Option Addr) (ls : List (List Int)) (e : Ending) (w' : World) : Prop :=
  ∃ q c vs, e = .returned (.slice q vs.length c) ∧ (vs = [] → q = none ∧ c = 0) ∧ RowV w' q vs ∧ (∀ a, q = some a → w.heap.size ≤ a.block ∧ a.block < w'.heap.size) ∧ InL (NewI w' w.heap.size qb) vs ls ∧ Below w.heap.size w w' ∧ vs.length ≤ c
/-- a list of ints that lies beside the row of the call -/
def BesideI (w : World) (lo : Nat) (ob : Option Nat) (v : Value) (l : List Int) : Prop := ∃ q c, v = .slice q l.length c ∧ RowV w q (flatI l) ∧ (q = none → c = 0) ∧ ∀ a, q = some a → lo ≤ a.block ∧ some a.block ≠ ob ∧ a.block < w.heap.size
theorem rowI_lt {w : World} {q : Option Addr} {l : List Int} (h : RowV w q (flatI l)) (hne : l ≠ []) : ∀ a, q = some a → a.block < w.heap.size := by
  intro a ha
  rcases h with h | ⟨b, off, e, hz, _⟩
  · exact absurd (by simpa [flatI] using h) hne
  · rw [e] at ha; injection ha with ha; subst ha; exact hz

theorem own_cap {w : World} {base : Nat} {e : TypeId} {size n c : Nat} {q : Option Addr} {xs : List Value} (h : w.ownsRow base e size (.slice q n c) n xs) : n ≤ c := by
  obtain ⟨_, ⟨hv, hn⟩ | ⟨g, cap, cur, hv, _, _, hnc, _⟩⟩ := h
  · omega
  · cases hv; exact hnc
theorem infoL : (Try.prog.info? 25).map (fun i => (i.zero, i.size, i.bytes)) = some (some (.slice none 0 0), 1, 24) := by kernel_rfl
/-- at a step of a region that draws: appending a whole list of lists to a list of the call's own -/
theorem step_lists (w : World) {ops : Array Oper} {o : Oper} {a : Act} {K : Act → World → Prop} {Q : Exit → Act → World → Prop} {E : Prop} (hgd : o.guard = none) (s x : Operand)
    (ho : o.op = .call { callee := .builtin .append, args := #[s, x], argTypes := #[56, 56] }) (base : Nat) (v : Value) (vs vr : List Value) (hs : a.eval s = v)
    (hown : w.ownsRow base 25 1 v vs.length vs) (q : Option Addr) (c : Nat) (hx : a.eval x = .slice q vr.length c) (hq : vr = [] → q = none ∧ c = 0) (hr : RowV w q vr) (h1c : ∀ u ∈ vr, u.oneCell' = true)
    (hl : vs.length + vr.length ≤ 1000000) (hbase : base ≤ w.heap.size)
    (h : ∀ v' w', w'.ownsRow base 25 1 v' (vs ++ vr).length (vs ++ vr) → w.grownBy w' v.ownBlock → (v'.ownBlock = v.ownBlock ∨ v'.ownBlock = some w.heap.size) → (vr = [] → v' = v) → K (a.put o.dst v') w') :
    if Region.wanted o (yielded ops a.tmps) = true then Oper.wp Try.prog o a w K Q else E := by
  obtain ⟨i0, hi, hz0, hz1, hz2⟩ := info_parts infoL
  have hw : Region.wanted o (yielded ops a.tmps) = true := by simp [Region.wanted, hgd]
  rw [if_pos hw]
  by_cases h0 : vr = []
  · subst h0
    obtain ⟨rfl, rfl⟩ := hq rfl
    have hx0 : a.eval x = .slice none 0 0 := hx
    have hrun := run_append_owned_none (P := Try.prog) (w := w) base 56 o.type 25 i0 1 Try.underlying56 hi v vs.length vs hown
    unfold Oper.wp
    simp [execOp, ho, resolve, invoke, builtin, hs, hx0, hrun, Result.andThen]
    refine h v w ?_ ⟨rfl, rfl, rfl, Nat.le_refl _, fun _ _ _ => rfl⟩ (.inl rfl) (fun _ => rfl)
    rw [List.append_nil]
    exact hown
  · rcases hr with hr | ⟨b, off, rfl, hz, hc⟩
    · exact absurd hr h0
    · have hpos : 0 < vr.length := List.length_pos_iff.2 h0
      refine wp_append_lies w s x 56 ho base 25 i0 _ 1 24 Try.underlying56 hi hz0 hz1 hz2 rfl (by decide) v vs.length vs hs hown ⟨b, off, none⟩ vr.length c vr hx (by omega) ?_ h1c hpos (by unfold maxLen; omega) (by omega) hbase _ rfl ?_
      · intro j u hj
        rw [addr_add_off]
        exact hc j u hj
      · intro g cap w' g1 g2 g3 g4
        refine h _ w' ?_ g2 ?_ (fun e => absurd e h0)
        · rw [List.length_append]; exact g1
        · rcases g3 with g3 | g3
          · exact .inl (by rw [g3]; rfl)
          · exact .inr (by rw [g3]; rfl)
theorem last_at {b b0 : List Int} {x : Int} (h : b = b0 ++ [x]) : 0 < b.length ∧ b.getD (b.length - 1) 0 = x := by
  subst h
  refine ⟨by simp, ?_⟩
  rw [getD_eq _ _ 0 (by simp)]
  simp

/-- what the loop has found -/
def OutL (w wr : World) (v : Value) (ls : List (List Int)) : Prop :=
  ∃ vs, wr.ownsRow w.heap.size 25 1 v vs.length vs ∧ (vs = [] → v = .slice none 0 0) ∧ InL (BesideI wr w.heap.size v.ownBlock) vs ls ∧ Below w.heap.size w wr
/-- behind one round -/
theorem OutL.step {w wr w2 w3 w4 : World} {v v' : Value} {ls ks : List (List Int)} {vs vr : List Value} {b : List Int} {q2 : Option Addr}
    (ho : wr.ownsRow w.heap.size 25 1 v vs.length vs) (hn : vs = [] → v = .slice none 0 0) (hin : InL (BesideI wr w.heap.size v.ownBlock) vs ls) (hb : Below w.heap.size w wr)
    (hb2 : Below wr.heap.size wr w2) (hq2 : ∀ a, q2 = some a → wr.heap.size ≤ a.block ∧ a.block < w2.heap.size) (hne : b ≠ [])
    (hr : InL (NewI w3 w2.heap.size q2) vr ks) (hlen : ∀ k ∈ ks, k ≠ []) (hb3 : Below w2.heap.size w2 w3)
    (ho4 : w4.ownsRow w.heap.size 25 1 v' (vs ++ vr).length (vs ++ vr)) (hg : w3.grownBy w4 v.ownBlock) (hbl : v'.ownBlock = v.ownBlock ∨ v'.ownBlock = some w3.heap.size) (hsame : vr = [] → v' = v) :
    OutL w w4 v' (ls ++ ks) := by
  have s1 := hb.size
  have s2 := hb2.size
  have s3 := hb3.size
  have hb13 : Below wr.heap.size wr w3 := hb2.trans (hb3.mono s2)
  have ho3 := owns_below ho (Nat.le_refl _) hb13
  have hlt := ho.lt
  have s4 : w3.heap.size ≤ w4.heap.size := hg.size
  have hkeep : ∀ (a : Option Addr) (l : List Int), RowV w3 a (flatI l) → (∀ x, a = some x → some x.block ≠ v.ownBlock ∧ x.block < w3.heap.size) → RowV w4 a (flatI l) := by
    intro a l h hx
    rcases h with h | ⟨bb, off, e, hz, hc⟩
    · exact .inl h
    · refine .inr ⟨bb, off, e, Nat.lt_of_lt_of_le hz s4, fun i u hi => ?_⟩
      rw [hg.cell_far ⟨bb, off + i, none⟩ hz (hx _ e).1]
      exact hc i u hi
  have hnew : ∀ x : Nat, x < w3.heap.size → some x ≠ v.ownBlock → some x ≠ v'.ownBlock := by
    intro x hx hne' e
    rcases hbl with h | h
    · exact hne' (by rw [e, h])
    · rw [h] at e; injection e with e; omega
  refine ⟨vs ++ vr, ho4, ?_, ?_, ?_⟩
  · intro e
    obtain ⟨e1, e2⟩ := List.append_eq_nil_iff.1 e
    rw [hsame e2, hn e1]
  · refine InL.app (InL.mono ?_ hin) (inL_mem ?_ hr)
    · rintro u l ⟨q, c, rfl, h1, hn, h2⟩
      have h3 := h1.below (Nat.le_refl _) hb13
      refine ⟨q, c, rfl, hkeep q l h3 (fun x hx => ⟨(h2 x hx).2.1, by have := (h2 x hx).2.2; omega⟩), hn, fun x hx => ?_⟩
      obtain ⟨k1, k2, k3⟩ := h2 x hx
      exact ⟨k1, hnew _ (by omega) k2, by omega⟩
    · rintro u l hl ⟨q, c, rfl, h1, hn, h2⟩
      have hz : ∀ x, q = some x → x.block < w3.heap.size := rowI_lt h1 (hlen l hl)
      have hwr : ∀ x, q = some x → wr.heap.size ≤ x.block := by
        intro x hx
        rcases h2 with h2 | h2
        · rw [h2] at hx; exact (hq2 x hx).1
        · have := h2 x hx; omega
      have hno : ∀ x, q = some x → some x.block ≠ v.ownBlock := by
        intro x hx e
        have := (hlt _ e.symm).2
        have := hwr x hx
        omega
      refine ⟨q, c, rfl, hkeep q l h1 (fun x hx => ⟨hno x hx, hz x hx⟩), hn, fun x hx => ⟨by have := hwr x hx; omega, hnew _ (hz x hx) (hno x hx), by have := hz x hx; omega⟩⟩
  · exact (hb.trans (hb13.mono s1)).trans (grown_below ho3 (by omega) hg)

end Go.Proofs.Ytadamjleglckpaa.drn

