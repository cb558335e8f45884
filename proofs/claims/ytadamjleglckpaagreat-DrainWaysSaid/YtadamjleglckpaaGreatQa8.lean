/- DrainWorth plainly: the least costs with a channel and without it, and what it may cost. -/
import Derived.Test.YtadamjleglckpaaGreatQa7
import Derived.Test.YtadamjleglckpaaGreatQa6
import Derived.Test.YtadamjleglckpaaGreatQa2
import Derived.WalkSpells
import Derived.Test.YtadamjleglckpaaGreatQa3
import Derived.Test.YtadamjleglckpaaGreatQa4
import Derived.Test.YtadamjleglckpaaGreatQa5
import Derived.Laws.EntriesVeiled

namespace Go.Proofs.YtadamjleglckpaaGreat.drn
set_option linter.unusedSimpArgs false
set_option linter.unusedVariables false
/-- a channel at another cost -/
def priced (cs : List Ch) (p : Nat) (y : Int) : List Ch := cs.set p ((cs.getD p (0, 0, 0)).1, (cs.getD p (0, 0, 0)).2.1, y)
theorem priced_length (cs : List Ch) (p : Nat) (y : Int) : (priced cs p y).length = cs.length := by unfold priced; simp
theorem priced_at (cs : List Ch) (p : Nat) (y : Int) (hp : p < cs.length) (i : Nat) : (priced cs p y).getD i (0, 0, 0) = if i = p then ((cs.getD p (0, 0, 0)).1, (cs.getD p (0, 0, 0)).2.1, y) else cs.getD i (0, 0, 0) := by
  unfold priced
  rw [List.getD_eq_getElem?_getD, List.getElem?_set]
  by_cases h : p = i
  · subst h
    rw [if_pos rfl, if_pos rfl, if_pos hp]
    rfl
  · rw [if_neg h, if_neg fun e => h e.symm]
    rw [List.getD_eq_getElem?_getD (l := cs) (i := i)]
theorem priced_ends (cs : List Ch) (p : Nat) (y : Int) (hp : p < cs.length) (i : Nat) : ends ((priced cs p y).getD i (0, 0, 0)) = ends (cs.getD i (0, 0, 0)) := by
  rw [priced_at cs p y hp]
  by_cases h : i = p
  · rw [if_pos h, h]; rfl
  · rw [if_neg h]
theorem priced_ok {n : Int} {cs : List Ch} (hc : ∀ c ∈ cs, ChOk n c) {p : Nat} (hp : p < cs.length) {y : Int} (hy : 0 ≤ y ∧ y ≤ 20) : ∀ c ∈ priced cs p y, ChOk n c := by
  intro c hm
  obtain ⟨i, hi, rfl⟩ := List.getElem_of_mem hm
  have hi2 : i < cs.length := by rw [priced_length] at hi; exact hi
  rw [← getD_eq _ i (0, 0, 0) hi, priced_at cs p y hp]
  have hk : ChOk n (cs.getD p (0, 0, 0)) := hc _ (getD_mem cs p _ hp)
  by_cases h : i = p
  · rw [if_pos h]
    obtain ⟨a, b, c, d, e⟩ := hk
    exact ⟨a, b, c, hy.1, hy.2⟩
  · rw [if_neg h]; exact hc _ (getD_mem cs i _ hi2)
theorem plansS_priced {n : Nat} {cs : List Ch} (hn : 1 ≤ n) (hc : ∀ c ∈ cs, ChOk n c) {p : Nat} (hp : p < cs.length) {y : Int} (hy : 0 ≤ y ∧ y ≤ 20) : plansS n (priced cs p y) = plansS n cs := by
  refine plans_only hn hc (plansS_sorted n _) fun l => ?_
  rw [mem_plansS hn (priced_ok hc hp hy)]
  exact ⟨plan_alike (priced_length cs p y) (priced_ends cs p y hp), plan_alike (priced_length cs p y).symm fun i => (priced_ends cs p y hp i).symm⟩
theorem cost_priced (cs : List Ch) {p : Nat} (hp : p < cs.length) (y : Int) : ∀ (l : List Int) (lo s : Nat), Ext cs lo s l →
    costS (priced cs p y) l = costS cs l + (if l.any (· == (p : Int)) then y - (cs.getD p (0, 0, 0)).2.2 else 0) ∧ (p < lo → l.any (· == (p : Int)) = false)
  | [], _, _, _ => ⟨rfl, fun _ => rfl⟩
  | x :: r, lo, s, ⟨⟨h1, h2⟩, _, h4⟩ => by
    obtain ⟨a, b⟩ := cost_priced cs hp y r _ _ h4
    rw [costS_cons, costS_cons, priced_at cs p y hp, List.any_cons, a]
    by_cases h : x.toNat = p
    · have hx : (x == (p : Int)) = true := beq_iff_eq.2 (by omega)
      rw [if_pos h, hx, b (by omega), h]
      simp only [Bool.true_or, if_true, Bool.false_eq_true, if_false]
      exact ⟨by omega, fun hlt => by omega⟩
    · have hx : (x == (p : Int)) = false := beq_eq_false_iff_ne.2 (by omega)
      rw [if_neg h, hx, Bool.false_or]
      exact ⟨by omega, fun hlt => by rw [b (by omega)]⟩
/-- the least of some costs, at most 1000 -/
def minW (cs : List Ch) (ps : List (List Int)) : Int := ps.foldl (fun m p => min m (costS cs p)) 1000
theorem minW_snoc (cs : List Ch) (ps : List (List Int)) (p : List Int) : minW cs (ps ++ [p]) = min (minW cs ps) (costS cs p) := by unfold minW; rw [List.foldl_append]; rfl
theorem minW_is {n : Int} {cs : List Ch} (hc : ∀ c ∈ cs, ChOk n c) {ps : List (List Int)} (hb : ∀ p ∈ ps, costS cs p < 1000) : minW cs ps = if ps = [] then 1000 else leastS cs ps := by
  have key : ∀ (l : List (List Int)) (m : Int), (l.foldl (fun m p => min m (costS cs p)) m = m ∨ ∃ p ∈ l, costS cs p = l.foldl (fun m p => min m (costS cs p)) m) ∧ l.foldl (fun m p => min m (costS cs p)) m ≤ m ∧ ∀ p ∈ l, l.foldl (fun m p => min m (costS cs p)) m ≤ costS cs p := by
    intro l
    induction l with
    | nil => intro m; exact ⟨.inl rfl, Int.le_refl _, by simp⟩
    | cons c r ih =>
      intro m
      rw [List.foldl_cons]
      obtain ⟨a, b, d⟩ := ih (min m (costS cs c))
      refine ⟨?_, by omega, fun e he => ?_⟩
      · rcases a with a | ⟨e, he, h⟩
        · rcases Int.le_total m (costS cs c) with h | h
          · left; rw [a]; omega
          · right; exact ⟨c, by simp, by rw [a]; omega⟩
        · right; exact ⟨e, by simp [he], h⟩
      · rcases List.mem_cons.1 he with rfl | he
        · omega
        · exact d e he
  by_cases h : ps = []
  · rw [if_pos h, h]; rfl
  · rw [if_neg h]
    obtain ⟨p, hp, e, hl⟩ := least_spec hc h
    obtain ⟨a, b, d⟩ := key ps 1000
    have h1 := d p hp
    have h2 := hb p hp
    show ps.foldl (fun m p => min m (costS cs p)) 1000 = _
    rcases a with a | ⟨q, hq, a⟩
    · omega
    · have := hl q hq
      omega
theorem worth_facts {n : Nat} {cs : List Ch} (h0 : errD n cs = 0) (hne : plansS n cs ≠ []) {p : Nat} (hp : p < cs.length) :
    (minW cs (oth p (plansS n cs)) = 1000 → (oth p (plansS n cs)).length = 0 ∧ withoutOf n cs p = (0, 12) ∧ priceOf n cs p = (0, 13)) ∧
    (minW cs (oth p (plansS n cs)) ≠ 1000 → (oth p (plansS n cs)).length ≠ 0) ∧
    (minW cs (oth p (plansS n cs)) ≠ 1000 → minW cs (hav p (plansS n cs)) = 1000 → withoutOf n cs p = (0, 0) ∧ priceOf n cs p = (0, 12)) ∧
    (minW cs (oth p (plansS n cs)) ≠ 1000 → minW cs (hav p (plansS n cs)) ≠ 1000 →
      withoutOf n cs p = (minW cs (oth p (plansS n cs)) - min (minW cs (hav p (plansS n cs))) (minW cs (oth p (plansS n cs))), 0) ∧
      priceOf n cs p = (minW cs (oth p (plansS n cs)) - minW cs (hav p (plansS n cs)) + (cs.getD p (0, 0, 0)).2.2, 0) ∧
      ∀ y, y = minW cs (oth p (plansS n cs)) - minW cs (hav p (plansS n cs)) + (cs.getD p (0, 0, 0)).2.2 → 0 ≤ y → y ≤ 20 →
        errD n (priced cs p y) = 0 ∧ plansS n (priced cs p y) = plansS n cs ∧ leastS (priced cs p y) (plansS n cs) = minW cs (oth p (plansS n cs))) ∧
    0 ≤ minW cs (oth p (plansS n cs)) ∧ minW cs (oth p (plansS n cs)) ≤ 1000 ∧ 0 ≤ minW cs (hav p (plansS n cs)) ∧ minW cs (hav p (plansS n cs)) ≤ 1000 := by
  obtain ⟨n1, n6, l14, hc⟩ := errD_ch h0
  have hpb : ∀ q ∈ plansS n cs, costS cs q < 1000 ∧ 0 ≤ costS cs q := fun q hq => by
    have h1 := (mem_plansS n1 hc q).1 hq
    have h2 := (Ext.full n6 hc h1.1).1
    have := costS_bd hc q
    omega
  have hO : ∀ q, q ∈ oth p (plansS n cs) ↔ q ∈ plansS n cs ∧ q.any (· == (p : Int)) = false := fun q => by unfold oth; rw [List.mem_filter]; simp
  have hH : ∀ q, q ∈ hav p (plansS n cs) ↔ q ∈ plansS n cs ∧ q.any (· == (p : Int)) = true := fun q => by unfold hav; rw [List.mem_filter]
  have wO := minW_is hc (ps := oth p (plansS n cs)) fun q hq => (hpb q ((hO q).1 hq).1).1
  have wH := minW_is hc (ps := hav p (plansS n cs)) fun q hq => (hpb q ((hH q).1 hq).1).1
  have bO : ∀ ps : List (List Int), ps ≠ [] → (∀ q ∈ ps, q ∈ plansS n cs) → 0 ≤ leastS cs ps ∧ leastS cs ps < 1000 := fun ps h h1 => by
    obtain ⟨q, hq, e, _⟩ := least_spec hc h
    have := hpb q (h1 q hq)
    omega
  have hgal : isGal cs.length (p : Int) = true := (isGal_iff _ _).2 ⟨by omega, by omega⟩
  obtain ⟨pl, hpl, epl, lpl⟩ := least_spec hc hne
  have hw : withoutOf n cs p = if (oth p (plansS n cs)).length = 0 then (0, 12) else (leastS cs (oth p (plansS n cs)) - leastS cs (plansS n cs), 0) := by
    unfold withoutOf
    rw [if_neg (fun h => h h0), if_neg (by rw [hgal]; decide)]
  have hpr : priceOf n cs p = if (hav p (plansS n cs)).length = 0 then (0, 12) else if (oth p (plansS n cs)).length = 0 then (0, 13) else (leastS cs (oth p (plansS n cs)) - (leastS cs (hav p (plansS n cs)) - (cs.getD p (0, 0, 0)).2.2), 0) := by
    unfold priceOf
    rw [if_neg (fun h => h h0), if_neg (by rw [hgal]; decide), Int.toNat_natCast]
  have hoth : oth p (plansS n cs) = [] ↔ (oth p (plansS n cs)).length = 0 := List.length_eq_zero_iff.symm
  have hhav : hav p (plansS n cs) = [] ↔ (hav p (plansS n cs)).length = 0 := List.length_eq_zero_iff.symm
  have one : oth p (plansS n cs) ≠ [] → leastS cs (oth p (plansS n cs)) < 1000 ∧ 0 ≤ leastS cs (oth p (plansS n cs)) := fun h => by have := bO _ h fun q hq => ((hO q).1 hq).1; omega
  have oneH : hav p (plansS n cs) ≠ [] → leastS cs (hav p (plansS n cs)) < 1000 ∧ 0 ≤ leastS cs (hav p (plansS n cs)) := fun h => by have := bO _ h fun q hq => ((hH q).1 hq).1; omega
  refine ⟨fun h => ?_, fun h => ?_, fun h h2 => ?_, fun h h2 => ?_, ?_⟩
  · have ho : oth p (plansS n cs) = [] := by
      apply Classical.byContradiction
      intro hn
      rw [wO, if_neg hn] at h
      have := one hn
      omega
    have hh : (hav p (plansS n cs)).length ≠ 0 := fun e => by
      have he := hhav.2 e
      cases hq : pl.any (· == (p : Int)) with
      | true => have := (hH pl).2 ⟨hpl, hq⟩; rw [he] at this; cases this
      | false => have := (hO pl).2 ⟨hpl, hq⟩; rw [ho] at this; cases this
    rw [hw, hpr, if_pos (hoth.1 ho), if_neg hh, if_pos (hoth.1 ho)]
    exact ⟨hoth.1 ho, rfl, rfl⟩
  · intro e
    rw [wO, if_pos (hoth.2 e)] at h
    exact h rfl
  · have ho : oth p (plansS n cs) ≠ [] := fun e => by rw [wO, if_pos e] at h; exact h rfl
    have hh : hav p (plansS n cs) = [] := by
      apply Classical.byContradiction
      intro hn
      rw [wH, if_neg hn] at h2
      have := oneH hn
      omega
    have hall : oth p (plansS n cs) = plansS n cs := by
      unfold oth
      rw [List.filter_eq_self]
      intro q hq
      cases hx : q.any (· == (p : Int)) with
      | true => have := (hH q).2 ⟨hq, hx⟩; rw [hh] at this; cases this
      | false => rfl
    rw [hw, hpr, if_neg (fun e => ho (hoth.2 e)), if_pos (hhav.1 hh), hall]
    exact ⟨by rw [Int.sub_self], rfl⟩
  · have ho : oth p (plansS n cs) ≠ [] := fun e => by rw [wO, if_pos e] at h; exact h rfl
    have hh : hav p (plansS n cs) ≠ [] := fun e => by rw [wH, if_pos e] at h2; exact h2 rfl
    rw [wO, wH, if_neg ho, if_neg hh, hw, hpr, if_neg (fun e => ho (hoth.2 e)), if_neg (fun e => hh (hhav.2 e)), if_neg (fun e => ho (hoth.2 e))]
    obtain ⟨a, ha, ea, la⟩ := least_spec hc ho
    obtain ⟨b, hb, eb, lb⟩ := least_spec hc hh
    have hmin : leastS cs (plansS n cs) = min (leastS cs (hav p (plansS n cs))) (leastS cs (oth p (plansS n cs))) := by
      have h1 := lpl a ((hO a).1 ha).1
      have h3 := lpl b ((hH b).1 hb).1
      cases hq : pl.any (· == (p : Int)) with
      | true => have := lb pl ((hH pl).2 ⟨hpl, hq⟩); omega
      | false => have := la pl ((hO pl).2 ⟨hpl, hq⟩); omega
    refine ⟨by rw [hmin], by rw [show ∀ x y z : Int, x - (y - z) = x - y + z from fun x y z => by omega], fun y hy y0 y20 => ?_⟩
    obtain ⟨_, _, _, _, hpw⟩ := errD_ok h0
    have hok := priced_ok hc hp (y := y) ⟨y0, y20⟩
    refine ⟨?_, plansS_priced n1 hc hp ⟨y0, y20⟩, ?_⟩
    · refine errD_of (by omega) (by omega) (by rw [priced_length]; exact l14) hok ?_
      rw [List.pairwise_iff_getElem] at hpw ⊢
      intro i j hi hj hij
      have hi' : i < cs.length := by rw [priced_length] at hi; exact hi
      have hj' : j < cs.length := by rw [priced_length] at hj; exact hj
      have g : ∀ (x : Nat) (hx : x < (priced cs p y).length) (hx' : x < cs.length), ((priced cs p y)[x].1, (priced cs p y)[x].2.1) = (cs[x].1, cs[x].2.1) := by
        intro x hx hx'
        have e1 := priced_ends cs p y hp x
        unfold ends at e1
        rw [List.getD_eq_getElem?_getD, List.getElem?_eq_getElem hx, List.getD_eq_getElem?_getD, List.getElem?_eq_getElem hx'] at e1
        simpa using e1
      have gi := g i hi hi'
      have gj := g j hj hj'
      simp only [Prod.mk.injEq] at gi gj
      rw [gi.1, gi.2, gj.1, gj.2]
      exact hpw i j hi' hj' hij
    · have hcost : ∀ q ∈ plansS n cs, costS (priced cs p y) q = costS cs q + (if q.any (· == (p : Int)) then y - (cs.getD p (0, 0, 0)).2.2 else 0) := fun q hq =>
        (cost_priced cs hp y q 0 0 ((mem_plansS n1 hc q).1 hq).1).1
      obtain ⟨m, hm, em, lm⟩ := least_spec hok hne
      have h1 := lm a ((hO a).1 ha).1
      rw [hcost a ((hO a).1 ha).1, ((hO a).1 ha).2] at h1
      have h3 := hcost m hm
      rw [em]
      cases hq : m.any (· == (p : Int)) with
      | true =>
        have h4 := lb m ((hH m).2 ⟨hm, hq⟩)
        rw [hq] at h3
        simp only [if_true, Bool.false_eq_true, if_false] at h1 h3
        omega
      | false =>
        have h4 := la m ((hO m).2 ⟨hm, hq⟩)
        rw [hq] at h3
        simp only [if_true, Bool.false_eq_true, if_false] at h1 h3
        omega
  · rw [wO, wH]
    refine ⟨?_, ?_, ?_, ?_⟩ <;> split
    · omega
    · rename_i h; have := one h; omega
    · omega
    · rename_i h; have := one h; omega
    · omega
    · rename_i h; have := oneH h; omega
    · omega
    · rename_i h; have := oneH h; omega
end Go.Proofs.YtadamjleglckpaaGreat.drn

/- Package drain, the walks: slices.ContainsFunc at ints, apartFrom. -/
namespace Go.Proofs.YtadamjleglckpaaGreat.drn
open Go.RowKit
set_option linter.unusedSimpArgs false
set_option linter.unusedVariables false

/-- a list in a variable that a closure has captured -/
def ListIn (w : World) (B : Nat) (l : List Int) : Prop := ∃ q c, B < w.heap.size ∧ w.cell? ⟨B, 0, none⟩ = some (.slice q l.length c) ∧ RowV w q (flatI l)
theorem ListIn.below {w w' : World} {B : Nat} {l : List Int} (h : ListIn w B l) {N : Nat} (hN : w.heap.size ≤ N) (hb : Below N w w') : ListIn w' B l := by
  obtain ⟨q, c, h1, h2, h3⟩ := h
  exact ⟨q, c, Nat.lt_of_lt_of_le h1 hb.size, (hb.cell (p := ⟨B, 0, none⟩) (Nat.lt_of_lt_of_le h1 hN)).trans h2, h3.below hN hb⟩
theorem apart1_any (B : Nat) (p : List Int) (c : Int) (w : World) (hB : ListIn w B p) (hl : p.length ≤ 1000) :
    Calls Tryz.prog 150 #[.int .i64 c, .pointer (some ⟨B, 0, none⟩)] w fun e w' => e = .returned (.bool (p.any (· == c))) ∧ w = w' := by
  obtain ⟨q, k, h1, h2, h3⟩ := hB
  go_enter Tryz.func150, Tryz.ntmps150
  go_wp2_with (go_at_call 28; refine (containsI_any c q k p w h3 (by omega)).mono ?_; rintro e w1 ⟨rfl, rfl⟩)
  go_ret
  exact ⟨rfl, rfl⟩
theorem indexF_any (B : Nat) (p : List Int) (q : Option Addr) (cap : Nat) (xs : List Int) (w : World) (hB : ListIn w B p) (hlp : p.length ≤ 1000) (hr : RowV w q (flatI xs)) (hl : xs.length ≤ 1000000) :
    Calls Tryz.prog 155 #[.slice q xs.length cap, .func (.func 150) #[] #[.pointer (some ⟨B, 0, none⟩)]] w fun e w' => e = .returned (.int .i64 (firstIdx (fun c => p.any (· == c)) xs)) ∧ w = w' := by
  have hap := fun c => apart1_any B p c w hB hlp
  have HAP := Lib.hid hap
  clear hap hB
  go_enter Tryz.func155, Tryz.ntmps155
  go_wp2
  go_loop [8] (fun i => ∃ k : Nat, k ≤ xs.length ∧ i = .int .i64 k ∧ AllNo (fun c => p.any (· == c)) xs k) (fun i => xs.length - (intOf i).toNat)
  case atStart => exact ⟨0, Nat.zero_le _, rfl, AllNo.zero _ _⟩
  case round =>
    obtain ⟨k, hk, rfl, hall⟩ := hrel
    by_cases hlt : k < xs.length
    · obtain ⟨b, off, rfl, hb, h1⟩ := rowI_at hr hlt (Nat.le_refl _) (Below.refl _ w)
      have hst := hall.step hlt 0
      generalize xs.getD k 0 = y at h1 hst
      obtain ⟨z, hz⟩ : ∃ z, p.any (· == y) = z := ⟨_, rfl⟩
      have hcc := HAP.out y
      rw [hz] at hcc
      have HS := Lib.hid hst
      have HCC := Lib.hid hcc
      have HZ := Lib.hid hz
      clear hst hcc hz
      cases z with
      | true =>
        go_wp2_with (go_at_call 150; refine HCC.out.mono ?_; rintro e w' ⟨rfl, rfl⟩)
        go_ret
        exact ⟨ret_int (HS.out.2 HZ.out).symm, rfl⟩
      | false =>
        go_wp2_with (go_at_call 150; refine HCC.out.mono ?_; rintro e w' ⟨rfl, rfl⟩)
        go_round
        case rel => exact ⟨k + 1, hlt, by go_num, HS.out.1 HZ.out⟩
        case measure => simp [intOf]; omega
    · obtain rfl : k = xs.length := by omega
      go_wp2
      go_ret
      exact ⟨ret_int hall.all.symm, rfl⟩
theorem containsF_any (B : Nat) (p : List Int) (q : Option Addr) (cap : Nat) (xs : List Int) (w : World) (hB : ListIn w B p) (hlp : p.length ≤ 1000) (hr : RowV w q (flatI xs)) (hl : xs.length ≤ 1000000) :
    Calls Tryz.prog 149 #[.slice q xs.length cap, .func (.func 150) #[] #[.pointer (some ⟨B, 0, none⟩)]] w fun e w' => e = .returned (.bool (xs.any fun c => p.any (· == c))) ∧ w = w' := by
  go_enter Tryz.func149, Tryz.ntmps149
  go_wp2_with (go_at_call 155; refine (indexF_any B p q cap xs _ hB hlp hr hl).mono ?_; rintro e w' ⟨rfl, rfl⟩)
  go_ret
  exact ⟨ret_bool (firstIdx_any _ _), rfl⟩

set_option maxRecDepth 100000 in
set_option maxHeartbeats 1000000 in
theorem apartFrom_any (pv : Value) (p : List Int) (lo : Nat) (q : Option Addr) (c : Nat) (vs : List Value) (ls : List (List Int)) (w : World) (hlo : lo ≤ w.heap.size) (hp : ListAt w lo pv p) (hlp : p.length ≤ 1000) (hls : ListsAt w lo q vs ls) (hl : ls.length ≤ 100000) (hg : ∀ l ∈ ls, l.length ≤ 1000) :
    Calls Tryz.prog 132 #[pv, .slice q ls.length c] w fun e w' => ∃ q' c' vs', e = .returned (.slice q' (apartFrom p ls).length c') ∧ ListsAt w' lo q' vs' (apartFrom p ls) ∧ Below w.heap.size w w' ∧ (apartFrom p ls).length ≤ c' := by
  obtain ⟨qp, cp, rfl, hrp, _, _⟩ := hp
  have hb0 : Below w.heap.size w (w.alloc (.cells #[.slice qp p.length cp] 25)) := (Below.refl _ _).alloc (Nat.le_refl _) _
  have hin : ListIn (w.alloc (.cells #[.slice qp p.length cp] 25)) w.heap.size p := ⟨qp, cp, by simp, by simp, hrp.below (Nat.le_refl _) hb0⟩
  have hls0 := hls.below (Nat.le_refl _) hb0
  have hvl := hls.2.1.len
  have hpl := fun k => pick_len (fun q => !q.any fun c => p.any (· == c)) (vs.take k) (ls.take k)
  have HPL := Lib.hid hpl
  have HB := Lib.hid hb0
  have HVL := Lib.hid hvl
  have HG := Lib.hid hg
  have HLS := Lib.hid hls0
  have HIN := Lib.hid hin
  clear hpl hb0 hvl hg hls hls0 hin hrp
  go_enter Tryz.func132, Tryz.ntmps132
  go_wp2
  obtain ⟨W0, hW0⟩ : ∃ W0, w.alloc (.cells #[.slice qp p.length cp] 25) = W0 := ⟨_, rfl⟩
  have hz0 : w.heap.size < W0.heap.size := by rw [← hW0]; simp
  rw [hW0] at HB HLS HIN ⊢
  clear hW0
  go_loopw [5, 10] (fun h i wr => ∃ k : Nat, k ≤ ls.length ∧ i = .int .i64 k ∧
      wr.ownsRow W0.heap.size 25 1 h (pick (fun q => !q.any fun c => p.any (· == c)) (vs.take k) (ls.take k)).length (pick (fun q => !q.any fun c => p.any (· == c)) (vs.take k) (ls.take k)) ∧ Below W0.heap.size W0 wr) (fun _ i _ => ls.length - (intOf i).toNat)
  case atStart => exact ⟨0, Nat.zero_le _, rfl, World.ownsRow_nil _ _ _ _, Below.refl _ _⟩
  case round =>
    obtain ⟨k, hk, rfl, ho1, hbel⟩ := hrel
    by_cases hlt : k < ls.length
    · obtain ⟨v, hv, hlv⟩ := InL.get k HLS.out.2.1 hlt
      obtain ⟨b, off, rfl, hb, hcell⟩ := HLS.out.1.here (k := k) (by rw [HVL.out]; exact hlt)
      have h1 := (hbel.cell (p := ⟨b, off + k, none⟩) hb).trans (hcell k v hv)
      have hp1 := pick_snoc (fun q => !q.any fun c => p.any (· == c)) vs ls k v hv hlt
      have hb1 : (pick (fun q => !q.any fun c => p.any (· == c)) (vs.take k) (ls.take k)).length ≤ 100000 := Nat.le_trans (HPL.out k) (by rw [List.length_take]; have := HVL.out; omega)
      have hgl := HG.out _ (getD_mem ls k [] hlt)
      generalize ls.getD k [] = l at hlv hp1 hgl
      generalize pick (fun q => !q.any fun c => p.any (· == c)) (vs.take k) (ls.take k) = A at ho1 hp1 hb1
      obtain ⟨ql, cl, rfl, hrl, _, _⟩ := hlv
      have hlk : (k : Int) < (ls.length : Int) := by omega
      have hrlw := hrl.below (Nat.le_refl _) hbel
      have hinw := HIN.out.below (Nat.le_refl _) hbel
      have hco := containsF_any w.heap.size p ql cl l wr hinw hlp hrlw (by omega)
      obtain ⟨y, hy⟩ : ∃ y, (l.any fun c => p.any (· == c)) = y := ⟨_, rfl⟩
      rw [hy] at hco
      simp only [hy] at hp1
      have HCO := Lib.hid hco
      have HP1 := Lib.hid hp1
      have HO1 := Lib.hid ho1
      have hsz := hbel.size
      clear hco hp1 ho1 hy hrlw hrl hv hcell hinw
      cases y with
      | true =>
        go_wp2_with (go_at_call 149; refine HCO.out.mono ?_; rintro e w1 ⟨rfl, rfl⟩)
        go_roundw
        case rel => exact ⟨k + 1, hlt, by go_num, by rw [HP1.out]; simpa using HO1.out, hbel⟩
        case measure => simp [intOf]; omega
      | false =>
        go_wp2_with (first
          | (go_at_call 149; refine HCO.out.mono ?_; rintro e w1 ⟨rfl, rfl⟩)
          | (at_builtin; refine app_list _ rfl (.tmp 18) (.tmp 20) rfl W0.heap.size u5 A ql l.length cl rfl (HO1.out.alloc _) wr.heap.size 1 rfl (by simp) (by omega) (by simp; omega) ?_; intro v2 w2 hown2 hgr2 hbk2))
        have hb2w : Below W0.heap.size W0 w2 := hbel.trans (((Below.refl _ _).alloc hbel.size _).trans (grown_below (HO1.out.alloc _) (by simp; omega) hgr2))
        clear hgr2 hbk2
        go_roundw
        case rel => exact ⟨k + 1, hlt, by go_num, by rw [HP1.out]; exact hown2, hb2w⟩
        case measure => simp [intOf]; omega
    · obtain rfl : k = ls.length := by omega
      have hvt : vs.take ls.length = vs := by rw [← HVL.out, List.take_length]
      rw [hvt, List.take_length] at ho1
      have hin1 := pick_in (fun q => !q.any fun c => p.any (· == c)) (InL.mono (fun v l (h : ListAt W0 lo v l) => h.below (Nat.le_refl _) hbel) HLS.out.2.1)
      obtain ⟨q1, c1, rfl, hr1, _, hq1⟩ := rowV_of_owns ho1 (by intro h; exact List.length_eq_zero_iff.1 h)
      have hcap1 := own_cap ho1
      have hl1 := hin1.len
      rw [hl1] at hcap1 ⊢
      have HI1 := Lib.hid hin1
      have HR1 := Lib.hid hr1
      have HQ1 := Lib.hid hq1
      have HC1 := Lib.hid hcap1
      clear hl1 hin1 hr1 hq1 ho1 hvt hcap1
      go_wp2
      go_ret
      exact ⟨q1, c1, _, rfl, ⟨HR1.out, HI1.out, fun a ha => ⟨by have := (HQ1.out a ha).1; omega, (HQ1.out a ha).2⟩⟩, HB.out.on hbel, HC1.out⟩
end Go.Proofs.YtadamjleglckpaaGreat.drn

/- Package drain, the walks: firstApart, Apart. -/
namespace Go.Proofs.YtadamjleglckpaaGreat.drn
open Go.RowKit
set_option linter.unusedSimpArgs false
set_option linter.unusedVariables false

theorem InL.drop {R : Value → List Int → Prop} : ∀ {vs : List Value} {ls : List (List Int)} (k : Nat), InL R vs ls → InL R (vs.drop k) (ls.drop k)
  | _, _, 0, h => h
  | [], [], k + 1, h => h
  | _ :: _, _ :: _, k + 1, h => by simpa using InL.drop k h.2
  | [], _ :: _, _ + 1, h => h.elim
  | _ :: _, [], _ + 1, h => h.elim
theorem ListsAt.drop {w : World} {lo b off : Nat} {vs : List Value} {ls : List (List Int)} (h : ListsAt w lo (some ⟨b, off, none⟩) vs ls) (k : Nat) : ListsAt w lo (some ⟨b, off + k, none⟩) (vs.drop k) (ls.drop k) := by
  obtain ⟨h1, h2, h3⟩ := h
  refine ⟨?_, h2.drop k, fun a ha => by injection ha with ha; subst ha; exact h3 ⟨b, off, none⟩ rfl⟩
  rcases h1 with rfl | ⟨b', off', e, hz, hc⟩
  · exact .inl (by simp)
  · injection e with e
    injection e with e1 e2
    subst e1 e2
    refine .inr ⟨b, off + k, rfl, hz, fun i v hi => ?_⟩
    rw [Nat.add_assoc]
    exact hc (k + i) v (by rw [← hi, List.getElem?_drop])
theorem neNilL (w : World) (a : Option Addr) (n c : Nat) : (binOp .neq 58 (.slice a n c) (.slice none 0 0)).run Tryz.prog w = .ok (.bool (!a.isNone)) w := run_neq_slice_nil_any w _ _ a n c 0 0 Tryz.underlying58
theorem eqNilL (w : World) (a : Option Addr) (n c : Nat) : (binOp .eql 58 (.slice a n c) (.slice none 0 0)).run Tryz.prog w = .ok (.bool a.isNone) w := Lib.run_eql_slice_nil w _ _ a n c 0 0 Tryz.underlying58
attribute [local go_sem] neNilL eqNilL

/-- the first plans that are apart, or nil -/
def FirstA (w : World) (lo k : Nat) (ls : List (List Int)) (e : Ending) (w' : World) : Prop :=
  ∃ q' c' vs', e = .returned (.slice q' ((apartS k ls).getD []).length c') ∧ ListsAt w' lo q' vs' ((apartS k ls).getD []) ∧ q'.isNone = (apartS k ls).isNone ∧ (q' = none → c' = 0) ∧ Below w.heap.size w w'
theorem apart_at (k : Nat) (ls : List (List Int)) (i : Nat) (h : i < ls.length) : apartS (k + 1) (ls.drop i) = match apartS k (apartFrom (ls.getD i []) (ls.drop (i + 1))) with
    | some l => some (ls.getD i [] :: l)
    | none => apartS (k + 1) (ls.drop (i + 1)) := by
  rw [List.drop_eq_getElem_cons h, ← getD_eq ls i [] h, apartS_cons]
  rfl

set_option maxRecDepth 100000 in
set_option maxHeartbeats 1000000 in
theorem firstApart_any : ∀ (k : Nat) (lo : Nat) (q : Option Addr) (c : Nat) (vs : List Value) (ls : List (List Int)) (w : World), k ≤ 100000 → lo ≤ w.heap.size → ListsAt w lo q vs ls → ls.length ≤ c → ls.length ≤ 100000 → (∀ l ∈ ls, l.length ≤ 1000) →
    Calls Tryz.prog 101 #[.slice q ls.length c, .int .i64 ((k + 1 : Nat) : Int)] w (FirstA w lo k ls) := by
  intro k
  induction k with
  | zero =>
    intro lo q c vs ls w hk hlo hls hc hl hg
    have hvl := hls.2.1.len
    have HLS := Lib.hid hls
    have HVL := Lib.hid hvl
    clear hls hvl hg hk
    go_enter Tryz.func101, Tryz.ntmps101
    go_wp2
    go_loop [10] (fun i => i = .int .i64 0) (fun _ => 0)
    case atStart => rfl
    case round =>
      subst hrel
      cases ls with
      | nil =>
        go_wp2
        go_ret
        exact ⟨none, 0, [], rfl, listsAt_nil _ _, rfl, fun _ => rfl, Below.refl _ _⟩
      | cons p r =>
        obtain ⟨v, hv, hlv⟩ := InL.get 0 HLS.out.2.1 (by simp)
        obtain ⟨b, off, rfl, hb, hcell⟩ := HLS.out.1.here (k := 0) (by rw [HVL.out]; simp)
        have h1 := hcell 0 v hv
        rw [Nat.add_zero] at h1
        obtain ⟨ql, cl, rfl, hrl, hnl, hbl⟩ := hlv
        have hpos : (0 : Int) < ((p :: r).length : Int) := by rw [List.length_cons]; omega
        obtain ⟨L, hL⟩ : ∃ L, (p :: r).length = L := ⟨_, rfl⟩
        rw [hL] at hpos ⊢
        clear hL hl hc hv hcell HVL HLS
        have hbA : Below w.heap.size w (w.alloc (.cells #[.slice ql ((p :: r).getD 0 []).length cl] 25)) := (Below.refl _ _).alloc (Nat.le_refl _) _
        go_wp2
        go_ret
        refine ⟨some ⟨w.heap.size, 0, none⟩, 1, [.slice ql p.length cl], rfl, ⟨.inr ⟨w.heap.size, 0, rfl, by simp, fun i v hi => ?_⟩, ⟨⟨ql, cl, rfl, hrl.below (Nat.le_refl _) hbA, hnl, fun a ha => ⟨(hbl a ha).1, Nat.lt_of_lt_of_le (hbl a ha).2 hbA.size⟩⟩, trivial⟩, fun a ha => ?_⟩, rfl, by simp, hbA⟩
        · obtain rfl : i = 0 := by
            have := (List.getElem?_eq_some_iff.1 hi).1
            simpa using this
          simp at hi
          subst hi
          simp
        · injection ha with ha
          subst ha
          exact ⟨hlo, by simp⟩
  | succ k ih =>
    intro lo q c vs ls w hk hlo hls hc hl hg
    have hvl := hls.2.1.len
    have HLS := Lib.hid hls
    have HVL := Lib.hid hvl
    have HG := Lib.hid hg
    have HIH := Lib.hid ih
    have hkne : (((k + 1 + 1 : Nat) : Int) == 1) = false := beq_eq_false_iff_ne.2 (by omega)
    have hkw : IntKind.i64.wrap (((k + 1 + 1 : Nat) : Int) - 1) = ((k + 1 : Nat) : Int) := by rw [IntWalk.i64_in _ ⟨by omega, by omega⟩]; omega
    clear hls hvl hg ih
    go_enter Tryz.func101, Tryz.ntmps101
    go_wp2
    go_loopw [10] (fun i wr => ∃ j : Nat, j ≤ ls.length ∧ i = .int .i64 j ∧ apartS (k + 1) (ls.drop j) = apartS (k + 1) ls ∧ Below w.heap.size w wr) (fun i _ => ls.length - (intOf i).toNat)
    case atStart => exact ⟨0, Nat.zero_le _, rfl, rfl, Below.refl _ _⟩
    case round =>
      obtain ⟨j, hj, rfl, hrest, hbel⟩ := hrel
      by_cases hlt : j < ls.length
      · obtain ⟨v, hv, hlv⟩ := InL.get j HLS.out.2.1 hlt
        obtain ⟨b, off, rfl, hb, hcell⟩ := HLS.out.1.here (k := j) (by rw [HVL.out]; exact hlt)
        have h1 := (hbel.cell (p := ⟨b, off + j, none⟩) hb).trans (hcell j v hv)
        have hst := apart_at k ls j hlt
        rw [hrest] at hst
        have hgl := HG.out _ (getD_mem ls j [] hlt)
        generalize ls.getD j [] = p at hlv hst hgl
        obtain ⟨ql, cl, rfl, hrl, hnl, hbl⟩ := hlv
        have hpA : ListAt wr lo (.slice ql p.length cl) p := ⟨ql, cl, rfl, hrl.below (Nat.le_refl _) hbel, hnl, fun a ha => ⟨(hbl a ha).1, Nat.lt_of_lt_of_le (hbl a ha).2 hbel.size⟩⟩
        have hdr := (HLS.out.below (Nat.le_refl _) hbel).drop (j + 1)
        have hwj : IntKind.i64.wrap ((j : Int) + 1) = ((j + 1 : Nat) : Int) := by rw [IntWalk.i64_in _ ⟨by omega, by omega⟩]; omega
        have hlk : (j : Int) < (ls.length : Int) := by omega
        have hj1 : ((j + 1 : Nat) : Int) ≤ (ls.length : Int) := by omega
        have hsz := hbel.size
        by_cases hjc : j + 1 = c
        · have hap := apartFrom_any (.slice ql p.length cl) p lo (some ⟨b, off, none⟩) 0 (vs.drop (j + 1)) (ls.drop (j + 1)) wr (by omega) hpA hgl ⟨.inl (List.drop_eq_nil_of_le (by rw [HVL.out]; omega)), hdr.2.1, fun a ha => by injection ha with ha; subst ha; exact (HLS.out.below (Nat.le_refl _) hbel).2.2 ⟨b, off, none⟩ rfl⟩ (by rw [List.length_drop]; omega) (fun l hl => HG.out l (List.mem_of_mem_drop hl))
          rw [List.length_drop, show ls.length - (j + 1) = 0 by omega] at hap
          have HAP := Lib.hid hap
          have HST := Lib.hid hst
          have HRE := Lib.hid hrest
          have HPA := Lib.hid hpA
          clear hap hst hrest hv hcell hdr hpA
          subst hjc
          go_wp2_with (go_at_call 132; refine HAP.out.mono ?_; rintro e w2 ⟨q2, c2, vs2, rfl, hls2, hb2, hcap2⟩)
          go_at_call 101
          have hih := HIH.out lo q2 c2 vs2 (apartFrom p (ls.drop (j + 1))) w2 (by omega) (Nat.le_trans hlo (hbel.on hb2).size) hls2 hcap2 (Nat.le_trans (apartFrom_le _ _) (by rw [List.length_drop]; omega)) (fun l hl => HG.out l (List.mem_of_mem_drop (List.mem_filter.1 hl).1))
          rw [show ((k + 1 : Nat) : Int) = (k : Int) + 1 by omega] at hih
          (with_reducible refine hih.mono ?_)
          clear hih
          rintro e w3 ⟨q3, c3, vs3, rfl, hls3, hnone3, hc3, hb3⟩
          dsimp only
          have hbw3 : Below w.heap.size w w3 := (hbel.on hb2).on hb3
          cases hres : apartS k (apartFrom p (ls.drop (j + 1))) with
          | none =>
            rw [hres] at hnone3 hls3
            have hq3 : q3 = none := by cases q3 with
              | none => rfl
              | some a => cases hnone3
            subst hq3
            have hst2 : apartS (k + 1) ls = apartS (k + 1) (ls.drop (j + 1)) := by rw [HST.out, hres]
            have HST2 := Lib.hid hst2
            clear hst2 hres hnone3 hls3 hls2
            go_wp2
            go_roundw
            case rel => exact ⟨_, _, _, _, _, ⟨j + 1, hlt, by go_num, HST2.out.symm⟩, rfl, rfl, rfl, rfl, rfl⟩
            case measure => simp [intOf]; omega
          | some l =>
            rw [hres] at hnone3 hls3
            obtain ⟨a3, ha3⟩ : ∃ a, q3 = some a := by cases q3 with
              | none => cases hnone3
              | some a => exact ⟨a, rfl⟩
            subst ha3
            have hst2 : apartS (k + 1) ls = some (p :: l) := by rw [HST.out, hres]
            obtain ⟨hl1, _⟩ := apartS_len k _ l hres
            have hlk2 : l.length ≤ 100001 := by omega
            have hl0 : 0 < l.length := by omega
            have HST2 := Lib.hid hst2
            have HLS3 := Lib.hid hls3
            have hvl3 := hls3.2.1.len
            have HVL3 := Lib.hid hvl3
            clear hst2 hres hnone3 hls3 hls2 hvl3 hl1
            rw [Option.getD_some] at HLS3 HVL3 ⊢
            obtain ⟨i0, hi, hz0, hz1, hz2⟩ := info_parts infoL
            have HI := Lib.hid hi
            have HZ0 := Lib.hid hz0
            have HZ1 := Lib.hid hz1
            have HZ2 := Lib.hid hz2
            have hlit : (w3.alloc (.cells #[.slice ql p.length cl] 25)).ownsRow w3.heap.size 25 1 (.slice (some ⟨w3.heap.size, 0, none⟩) 1 1) 1 [.slice ql p.length cl] :=
              World.ownsRow_lit (base := w3.heap.size) (e := 25) (size := 1) w3 #[.slice ql p.length cl] 1 (Nat.le_refl _) (by decide) rfl
            have HLIT := Lib.hid hlit
            have hbA : Below w3.heap.size w3 (w3.alloc (.cells #[.slice ql p.length cl] 25)) := (Below.refl _ _).alloc (Nat.le_refl _) _
            have hnews : ∀ (j : Nat) (u : Value), vs3[j]? = some u → (w3.alloc (.cells #[.slice ql p.length cl] 25)).cell? (a3.add j) = some u := by
              intro j u hj
              rcases HLS3.out.1 with h | ⟨b', off', e, hz, hcc⟩
              · rw [h] at hj; simp at hj
              · injection e with e
                subst e
                rw [addr_add_off]
                exact (hbA.cell (p := ⟨b', off' + j, none⟩) hz).trans (hcc j u hj)
            have HNEWS := Lib.hid hnews
            have h1c : ∀ u ∈ vs3, u.oneCell' = true := InL.all (by rintro u l ⟨q, c, rfl, _⟩; rfl) HLS3.out.2.1
            have H1C := Lib.hid h1c
            clear hi hz0 hz1 hz2 hlit hnews h1c
            go_wp2_with (at_builtin; refine wpList_append_blk _ rfl (.tmp 31) (.tmp 32) 58 rfl w3.heap.size 25 i0 _ 1 24 Tryz.underlying58 HI.out HZ0.out HZ1.out HZ2.out rfl (by decide) _ 1 [.slice ql p.length cl] rfl HLIT.out a3 l.length c3 vs3 rfl (by rw [HVL3.out]; omega) HNEWS.out H1C.out (by unfold maxLen; omega) (by omega) (by simp) hl0 ?_; intro v5 w5 hown5 hgr5 hbk5)
            have hb5 : Below w3.heap.size w3 w5 := hbA.trans (grown_below HLIT.out (by simp) hgr5)
            obtain ⟨q5, c5, rfl, hr5, hc5, hq5⟩ := rowV_of_owns hown5 (by intro h; omega)
            have hsome : ∃ a, q5 = some a := by
              cases q5 with
              | some a => exact ⟨a, rfl⟩
              | none =>
                rcases hr5 with h | ⟨_, _, e, _⟩
                · simp at h
                · cases e
            obtain ⟨a5, rfl⟩ := hsome
            have hb23 : Below wr.heap.size wr w5 := (hb2.on hb3).on hb5
            go_ret
            refine ⟨some a5, c5, [.slice ql p.length cl] ++ vs3, ?_, ⟨hr5, ?_, fun a ha => ?_⟩, ?_, by simp, hbw3.on hb5⟩
            · show Ending.returned (.slice (some a5) (1 + l.length) c5) = _
              rw [HST2.out, Option.getD_some, List.length_cons, Nat.add_comm 1 l.length]
            · rw [HST2.out, Option.getD_some]
              exact ⟨HPA.out.below (Nat.le_refl _) hb23, InL.mono (fun v l h => h.below (Nat.le_refl _) hb5) HLS3.out.2.1⟩
            · have := hq5 a ha
              exact ⟨by have := hbw3.size; omega, this.2⟩
            · rw [HST2.out]; rfl
        · have hjc2 : ¬ ((j + 1 : Nat) : Int) = (c : Int) := by omega
          have hap := apartFrom_any (.slice ql p.length cl) p lo (some ⟨b, off + (j + 1), none⟩) (c - (j + 1)) (vs.drop (j + 1)) (ls.drop (j + 1)) wr (by omega) hpA hgl hdr (by rw [List.length_drop]; omega) (fun l hl => HG.out l (List.mem_of_mem_drop hl))
          rw [List.length_drop] at hap
          have HAP := Lib.hid hap
          have HST := Lib.hid hst
          have HRE := Lib.hid hrest
          have HPA := Lib.hid hpA
          clear hap hst hrest hv hcell hdr hpA
          go_wp2_with (go_at_call 132; refine HAP.out.mono ?_; rintro e w2 ⟨q2, c2, vs2, rfl, hls2, hb2, hcap2⟩)
          go_at_call 101
          have hih := HIH.out lo q2 c2 vs2 (apartFrom p (ls.drop (j + 1))) w2 (by omega) (Nat.le_trans hlo (hbel.on hb2).size) hls2 hcap2 (Nat.le_trans (apartFrom_le _ _) (by rw [List.length_drop]; omega)) (fun l hl => HG.out l (List.mem_of_mem_drop (List.mem_filter.1 hl).1))
          rw [show ((k + 1 : Nat) : Int) = (k : Int) + 1 by omega] at hih
          (with_reducible refine hih.mono ?_)
          clear hih
          rintro e w3 ⟨q3, c3, vs3, rfl, hls3, hnone3, hc3, hb3⟩
          dsimp only
          have hbw3 : Below w.heap.size w w3 := (hbel.on hb2).on hb3
          cases hres : apartS k (apartFrom p (ls.drop (j + 1))) with
          | none =>
            rw [hres] at hnone3 hls3
            have hq3 : q3 = none := by cases q3 with
              | none => rfl
              | some a => cases hnone3
            subst hq3
            have hst2 : apartS (k + 1) ls = apartS (k + 1) (ls.drop (j + 1)) := by rw [HST.out, hres]
            have HST2 := Lib.hid hst2
            clear hst2 hres hnone3 hls3 hls2
            go_wp2
            go_roundw
            case rel => exact ⟨_, _, _, _, _, ⟨j + 1, hlt, by go_num, HST2.out.symm⟩, rfl, rfl, rfl, rfl, rfl⟩
            case measure => simp [intOf]; omega
          | some l =>
            rw [hres] at hnone3 hls3
            obtain ⟨a3, ha3⟩ : ∃ a, q3 = some a := by cases q3 with
              | none => cases hnone3
              | some a => exact ⟨a, rfl⟩
            subst ha3
            have hst2 : apartS (k + 1) ls = some (p :: l) := by rw [HST.out, hres]
            obtain ⟨hl1, _⟩ := apartS_len k _ l hres
            have hlk2 : l.length ≤ 100001 := by omega
            have hl0 : 0 < l.length := by omega
            have HST2 := Lib.hid hst2
            have HLS3 := Lib.hid hls3
            have hvl3 := hls3.2.1.len
            have HVL3 := Lib.hid hvl3
            clear hst2 hres hnone3 hls3 hls2 hvl3 hl1
            rw [Option.getD_some] at HLS3 HVL3 ⊢
            obtain ⟨i0, hi, hz0, hz1, hz2⟩ := info_parts infoL
            have HI := Lib.hid hi
            have HZ0 := Lib.hid hz0
            have HZ1 := Lib.hid hz1
            have HZ2 := Lib.hid hz2
            have hlit : (w3.alloc (.cells #[.slice ql p.length cl] 25)).ownsRow w3.heap.size 25 1 (.slice (some ⟨w3.heap.size, 0, none⟩) 1 1) 1 [.slice ql p.length cl] :=
              World.ownsRow_lit (base := w3.heap.size) (e := 25) (size := 1) w3 #[.slice ql p.length cl] 1 (Nat.le_refl _) (by decide) rfl
            have HLIT := Lib.hid hlit
            have hbA : Below w3.heap.size w3 (w3.alloc (.cells #[.slice ql p.length cl] 25)) := (Below.refl _ _).alloc (Nat.le_refl _) _
            have hnews : ∀ (j : Nat) (u : Value), vs3[j]? = some u → (w3.alloc (.cells #[.slice ql p.length cl] 25)).cell? (a3.add j) = some u := by
              intro j u hj
              rcases HLS3.out.1 with h | ⟨b', off', e, hz, hcc⟩
              · rw [h] at hj; simp at hj
              · injection e with e
                subst e
                rw [addr_add_off]
                exact (hbA.cell (p := ⟨b', off' + j, none⟩) hz).trans (hcc j u hj)
            have HNEWS := Lib.hid hnews
            have h1c : ∀ u ∈ vs3, u.oneCell' = true := InL.all (by rintro u l ⟨q, c, rfl, _⟩; rfl) HLS3.out.2.1
            have H1C := Lib.hid h1c
            clear hi hz0 hz1 hz2 hlit hnews h1c
            go_wp2_with (at_builtin; refine wpList_append_blk _ rfl (.tmp 31) (.tmp 32) 58 rfl w3.heap.size 25 i0 _ 1 24 Tryz.underlying58 HI.out HZ0.out HZ1.out HZ2.out rfl (by decide) _ 1 [.slice ql p.length cl] rfl HLIT.out a3 l.length c3 vs3 rfl (by rw [HVL3.out]; omega) HNEWS.out H1C.out (by unfold maxLen; omega) (by omega) (by simp) hl0 ?_; intro v5 w5 hown5 hgr5 hbk5)
            have hb5 : Below w3.heap.size w3 w5 := hbA.trans (grown_below HLIT.out (by simp) hgr5)
            obtain ⟨q5, c5, rfl, hr5, hc5, hq5⟩ := rowV_of_owns hown5 (by intro h; omega)
            have hsome : ∃ a, q5 = some a := by
              cases q5 with
              | some a => exact ⟨a, rfl⟩
              | none =>
                rcases hr5 with h | ⟨_, _, e, _⟩
                · simp at h
                · cases e
            obtain ⟨a5, rfl⟩ := hsome
            have hb23 : Below wr.heap.size wr w5 := (hb2.on hb3).on hb5
            go_ret
            refine ⟨some a5, c5, [.slice ql p.length cl] ++ vs3, ?_, ⟨hr5, ?_, fun a ha => ?_⟩, ?_, by simp, hbw3.on hb5⟩
            · show Ending.returned (.slice (some a5) (1 + l.length) c5) = _
              rw [HST2.out, Option.getD_some, List.length_cons, Nat.add_comm 1 l.length]
            · rw [HST2.out, Option.getD_some]
              exact ⟨HPA.out.below (Nat.le_refl _) hb23, InL.mono (fun v l h => h.below (Nat.le_refl _) hb5) HLS3.out.2.1⟩
            · have := hq5 a ha
              exact ⟨by have := hbw3.size; omega, this.2⟩
            · rw [HST2.out]; rfl
      · obtain rfl : j = ls.length := by omega
        rw [List.drop_length, apartS_nil] at hrest
        have HRE := Lib.hid hrest
        clear hrest
        go_wp2
        go_ret
        exact ⟨none, 0, [], by rw [← HRE.out]; rfl, by rw [← HRE.out]; exact listsAt_nil _ _, by rw [← HRE.out]; rfl, fun _ => rfl, hbel⟩

/-- lists, an error: what Apart answers -/
def RetA (w : World) (ls : List (List Int)) (err : Int) (e : Ending) (w' : World) : Prop :=
  ∃ q c vs, e = .returned (.tuple #[.slice q ls.length c, .int .i64 err]) ∧ ListsAt w' w.heap.size q vs ls ∧ Below w.heap.size w w'
set_option maxRecDepth 100000 in
theorem Apart_any (n : Int) (q : Option Addr) (cap : Nat) (cs : List Ch) (k : Int) (w : World) (hr : RowV w q (flatT cs)) (hcap : cs.length ≤ cap) :
    Calls Tryz.prog 44 #[hillV n q cs.length cap, .int .i64 k] w (RetA w (apartOf n.toNat cs k).1 (apartOf n.toNat cs k).2) := by
  have hb0 : Below w.heap.size w (w.alloc (.cells #[.int .i64 n, .slice q cs.length cap] 24)) := (Below.refl _ _).alloc (Nat.le_refl _) _
  have c1 := Check_any n q cap cs _ (hr.below (Nat.le_refl _) hb0) hcap
  have HB := Lib.hid hb0
  by_cases h0 : errD n cs = 0
  · obtain ⟨m, rfl, hchs⟩ := chs_of h0
    have hans : apartOf ((m : Int).toNat) cs k = if k < 1 ∨ 4 < k then (([], 1) : List (List Int) × Int) else match apartS (k.toNat - 1) (plansS m cs) with | none => (([], 12) : List (List Int) × Int) | some l => ((l, 0) : List (List Int) × Int) := by
      unfold apartOf
      rw [Int.toNat_natCast, if_neg (fun h => h h0)]
      rfl
    have hpl := fun W hb => plansOf_any m q cap cs W hchs (hr.below (Nat.le_refl _) hb)
    have hlen : (plansS m cs).length ≤ 100000 := by have := plansS_len hchs; omega
    have hg : ∀ l ∈ plansS m cs, l.length ≤ 1000 := fun l hl => (goodL_plans hchs l hl).2
    rw [hans]
    generalize plansS m cs = ls at hpl hlen hg ⊢
    unfold hillV RetL at *
    rw [h0] at c1
    have C1 := Lib.hid c1
    have HPL := Lib.hid hpl
    have HG := Lib.hid hg
    by_cases hk : k < 1 ∨ 4 < k
    · rw [if_pos hk]
      rcases hk with hk | hk
      · clear hans h0 hr hb0 hchs c1 hpl hg
        go_enter Tryz.func44, Tryz.ntmps44
        go_wp2_with (go_at_call 18; refine C1.out.mono ?_; rintro e w1 ⟨rfl, hb1⟩; have hac1 : Below w.heap.size w w1 := HB.out.on hb1)
        go_ret2
        exact ⟨none, 0, [], rfl, listsAt_nil _ _, hac1⟩
      · have hk1 : ¬ k < 1 := by omega
        clear hans h0 hr hb0 hchs c1 hpl hg
        go_enter Tryz.func44, Tryz.ntmps44
        go_wp2_with (go_at_call 18; refine C1.out.mono ?_; rintro e w1 ⟨rfl, hb1⟩; have hac1 : Below w.heap.size w w1 := HB.out.on hb1)
        go_ret2
        exact ⟨none, 0, [], rfl, listsAt_nil _ _, hac1⟩
    · rw [if_neg hk]
      have hk1 : ¬ k < 1 := by omega
      have hk4 : ¬ 4 < k := by omega
      obtain ⟨j, hj⟩ : ∃ j : Nat, k = ((j + 1 : Nat) : Int) := ⟨k.toNat - 1, by omega⟩
      rw [show k.toNat - 1 = j by omega]
      have hfa := fun W lo q c vs h1 h2 h3 => firstApart_any j lo q c vs ls W (by omega) h1 h2 h3 hlen hg
      rw [← hj] at hfa
      cases hres : apartS j ls with
      | none =>
        unfold FirstA at hfa
        rw [hres] at hfa
        have HFA := Lib.hid hfa
        clear hans h0 hr hb0 hchs c1 hpl hg hk hres hfa hj hlen
        go_enter Tryz.func44, Tryz.ntmps44
        go_wp2_with (first
          | (go_at_call 18; refine C1.out.mono ?_; rintro e w1 ⟨rfl, hb1⟩; obtain ⟨hc1, hf1⟩ := bcell hb1; have hac1 : Below w.heap.size w w1 := HB.out.on hb1; have hz0 : w.heap.size < w1.heap.size := (by have := hb1.size; simp at this; omega))
          | (go_at_call 100; refine (HPL.out w1 hac1).mono ?_; rintro e w2 ⟨q2, c2, vs, rfl, hvl, hnil, hlsA, hb2, hcap2⟩; have HVL := Lib.hid hvl; clear hvl hnil)
          | (go_at_call 101; refine (HFA.out w2 _ q2 c2 vs hb2.size hlsA hcap2).mono ?_; rintro e w3 ⟨q3, c3, vs3, rfl, hls3, hn3, hc3, hb3⟩; obtain rfl : q3 = none := (by cases q3 with | none => rfl | some a => cases hn3)))
        go_ret2
        exact ⟨none, 0, [], rfl, listsAt_nil _ _, (hac1.on hb2).on hb3⟩
      | some l =>
        unfold FirstA at hfa
        rw [hres] at hfa
        have HFA := Lib.hid hfa
        clear hans h0 hr hb0 hchs c1 hpl hg hk hres hfa hj hlen
        go_enter Tryz.func44, Tryz.ntmps44
        go_wp2_with (first
          | (go_at_call 18; refine C1.out.mono ?_; rintro e w1 ⟨rfl, hb1⟩; obtain ⟨hc1, hf1⟩ := bcell hb1; have hac1 : Below w.heap.size w w1 := HB.out.on hb1; have hz0 : w.heap.size < w1.heap.size := (by have := hb1.size; simp at this; omega))
          | (go_at_call 100; refine (HPL.out w1 hac1).mono ?_; rintro e w2 ⟨q2, c2, vs, rfl, hvl, hnil, hlsA, hb2, hcap2⟩; have HVL := Lib.hid hvl; clear hvl hnil)
          | (go_at_call 101; refine (HFA.out w2 _ q2 c2 vs hb2.size hlsA hcap2).mono ?_; rintro e w3 ⟨q3, c3, vs3, rfl, hls3, hn3, hc3, hb3⟩; obtain ⟨a3, rfl⟩ : ∃ a, q3 = some a := (by cases q3 with | none => cases hn3 | some a => exact ⟨a, rfl⟩)))
        go_ret2
        exact ⟨_, c3, vs3, rfl, hls3.lower hac1.size, (hac1.on hb2).on hb3⟩
  · have hans : apartOf n.toNat cs k = ([], errD n cs) := by
      unfold apartOf
      rw [errD_nat, if_pos h0]
    rw [hans]
    have hb : (errD n cs != 0) = true := by simpa using h0
    unfold hillV at *
    have C1 := Lib.hid c1
    clear hans h0 hr hb0 c1
    go_enter Tryz.func44, Tryz.ntmps44
    go_wp2_with (go_at_call 18; refine C1.out.mono ?_; rintro e w1 ⟨rfl, hb1⟩)
    go_ret2
    exact ⟨none, 0, [], rfl, listsAt_nil _ _, HB.out.on hb1⟩
end Go.Proofs.YtadamjleglckpaaGreat.drn

/- Package drain, the walks: plansWithChannel, Without. -/
namespace Go.Proofs.YtadamjleglckpaaGreat.drn
open Go.RowKit
set_option linter.unusedSimpArgs false
set_option linter.unusedVariables false

def withS (n : Nat) (cs : List Ch) (i : Int) : List (List Int) × Int := if errD n cs ≠ 0 then ([], errD n cs) else if !isGal cs.length i then ([], 2) else (plansS n cs, 0)
set_option maxRecDepth 100000 in
theorem plansWith_any (n : Int) (q : Option Addr) (cap : Nat) (cs : List Ch) (i : Int) (w : World) (hr : RowV w q (flatT cs)) (hcap : cs.length ≤ cap) :
    Calls Tryz.prog 85 #[hillV n q cs.length cap, .int .i64 i] w (RetLE w (withS n.toNat cs i).1 (withS n.toNat cs i).2) := by
  have hb0 : Below w.heap.size w (w.alloc (.cells #[.int .i64 n, .slice q cs.length cap] 24)) := (Below.refl _ _).alloc (Nat.le_refl _) _
  have c1 := Check_any n q cap cs _ (hr.below (Nat.le_refl _) hb0) hcap
  have hhc := fun W => hasChannel_any n q cs.length cap i W
  have HR := Lib.hid hr
  have HB := Lib.hid hb0
  by_cases h0 : errD n cs = 0
  · obtain ⟨m, rfl, hchs⟩ := chs_of h0
    have hans : withS ((m : Int).toNat) cs i = if !isGal cs.length i then ([], 2) else (plansS m cs, 0) := by
      unfold withS
      rw [Int.toNat_natCast, if_neg (fun h => h h0)]
    have hpl := fun W hb => plansOf_any m q cap cs W hchs (hr.below (Nat.le_refl _) hb)
    rw [hans]
    generalize plansS m cs = ls at hpl ⊢
    obtain ⟨gg, hgg⟩ : ∃ gg, isGal cs.length i = gg := ⟨_, rfl⟩
    rw [hgg]
    simp only [hgg] at hhc
    unfold hillV at *
    rw [h0] at c1
    have C1 := Lib.hid c1
    have HPL := Lib.hid hpl
    have HHC := Lib.hid hhc
    clear hans h0 hr hb0 hchs c1 hpl hhc hgg
    cases gg with
    | false =>
      go_enter Tryz.func85, Tryz.ntmps85
      go_wp2_with (first
        | (go_at_call 18; refine C1.out.mono ?_; rintro e w1 ⟨rfl, hb1⟩; obtain ⟨hc1, hf1⟩ := bcell hb1; have hac1 : Below w.heap.size w w1 := HB.out.on hb1; have hz0 : w.heap.size < w1.heap.size := (by have := hb1.size; simp at this; omega))
        | (go_at_call 88; refine (HHC.out w1).mono ?_; rintro e w2 ⟨rfl, hb2⟩; obtain ⟨hc2, hf2⟩ := bcell hb2; have hac2 : Below w.heap.size w w2 := hac1.on hb2))
      go_ret2
      exact ⟨none, 0, [], rfl, rfl, fun _ => ⟨rfl, rfl⟩, listsAt_nil _ _, hac2⟩
    | true =>
      go_enter Tryz.func85, Tryz.ntmps85
      go_wp2_with (first
        | (go_at_call 18; refine C1.out.mono ?_; rintro e w1 ⟨rfl, hb1⟩; obtain ⟨hc1, hf1⟩ := bcell hb1; have hac1 : Below w.heap.size w w1 := HB.out.on hb1; have hz0 : w.heap.size < w1.heap.size := (by have := hb1.size; simp at this; omega))
        | (go_at_call 88; refine (HHC.out w1).mono ?_; rintro e w2 ⟨rfl, hb2⟩; obtain ⟨hc2, hf2⟩ := bcell hb2; have hac2 : Below w.heap.size w w2 := hac1.on hb2)
        | (go_at_call 100; refine (HPL.out w2 hac2).mono ?_; rintro e w3 ⟨q2, c2, vs, rfl, hvl, hnil, hlsA, hb3, _⟩))
      go_ret2
      exact ⟨q2, c2, vs, rfl, hvl, hnil, hlsA.lower hac2.size, hac2.on hb3⟩
  · have hans : withS n.toNat cs i = ([], errD n cs) := by
      unfold withS
      rw [errD_nat, if_pos h0]
    rw [hans]
    have hb : (errD n cs != 0) = true := by simpa using h0
    unfold hillV at *
    have C1 := Lib.hid c1
    clear hans h0 hr hb0 c1 hhc
    go_enter Tryz.func85, Tryz.ntmps85
    go_wp2_with (go_at_call 18; refine C1.out.mono ?_; rintro e w1 ⟨rfl, hb1⟩)
    go_ret2
    exact ⟨none, 0, [], rfl, rfl, fun _ => ⟨rfl, rfl⟩, listsAt_nil _ _, HB.out.on hb1⟩

theorem withS_cases (n i : Int) (cs : List Ch) : ((withS n.toNat cs i).1 = [] ∧ (withS n.toNat cs i).2 ≠ 0) ∨ ∃ m : Nat, n = m ∧ Chs m cs ∧ errD n cs = 0 ∧ isGal cs.length i = true ∧ withS n.toNat cs i = (plansS m cs, 0) := by
  by_cases h0 : errD n cs = 0
  · obtain ⟨m, rfl, hchs⟩ := chs_of h0
    have hans : withS ((m : Int).toNat) cs i = if !isGal cs.length i then ([], 2) else (plansS m cs, 0) := by
      unfold withS
      rw [Int.toNat_natCast, if_neg (fun h => h h0)]
    by_cases hg : isGal cs.length i = true
    · rw [hans, hg]
      exact .inr ⟨m, rfl, hchs, h0, rfl, rfl⟩
    · have hg' : isGal cs.length i = false := by simpa using hg
      rw [hans, hg']
      exact .inl ⟨rfl, by show (2 : Int) ≠ 0; decide⟩
  · have hans : withS n.toNat cs i = ([], errD n cs) := by
      unfold withS
      rw [errD_nat, if_pos h0]
    rw [hans]
    exact .inl ⟨rfl, h0⟩
theorem without_err {n : Nat} {cs : List Ch} {i : Int} (h : (withS n cs i).2 ≠ 0) : withoutOf n cs i = (0, (withS n cs i).2) := by
  by_cases h0 : errD n cs = 0
  · by_cases hg : isGal cs.length i = true
    · have e : withS n cs i = (plansS n cs, 0) := by rw [withS, if_neg (fun h => h h0), hg, if_neg (by decide)]
      rw [e] at h
      exact absurd rfl h
    · have hg' : isGal cs.length i = false := by simpa using hg
      have e1 : withoutOf n cs i = (0, 2) := by rw [withoutOf, if_neg (fun h => h h0), hg', if_pos (by decide)]
      have e2 : withS n cs i = ([], 2) := by rw [withS, if_neg (fun h => h h0), hg', if_pos (by decide)]
      rw [e1, e2]
  · have e1 : withoutOf n cs i = (0, errD n cs) := by rw [withoutOf, if_pos h0]
    have e2 : withS n cs i = ([], errD n cs) := by rw [withS, if_pos h0]
    rw [e1, e2]
theorem price_err {n : Nat} {cs : List Ch} {i : Int} (h : (withS n cs i).2 ≠ 0) : priceOf n cs i = (0, (withS n cs i).2) := by
  by_cases h0 : errD n cs = 0
  · by_cases hg : isGal cs.length i = true
    · have e : withS n cs i = (plansS n cs, 0) := by rw [withS, if_neg (fun h => h h0), hg, if_neg (by decide)]
      rw [e] at h
      exact absurd rfl h
    · have hg' : isGal cs.length i = false := by simpa using hg
      have e1 : priceOf n cs i = (0, 2) := by rw [priceOf, if_neg (fun h => h h0), hg', if_pos (by decide)]
      have e2 : withS n cs i = ([], 2) := by rw [withS, if_neg (fun h => h h0), hg', if_pos (by decide)]
      rw [e1, e2]
  · have e1 : priceOf n cs i = (0, errD n cs) := by rw [priceOf, if_pos h0]
    have e2 : withS n cs i = ([], errD n cs) := by rw [withS, if_pos h0]
    rw [e1, e2]
theorem least_bd {n : Nat} {cs : List Ch} (hc : Chs n cs) {ls : List (List Int)} (hg : GoodL cs ls) (hne : ls ≠ []) : 0 ≤ leastS cs ls ∧ leastS cs ls ≤ 20000 := by
  obtain ⟨p, hp, e, _⟩ := least_spec (n := n) hc.ok hne
  have := costS_bd hc.ok p
  have := (hg p hp).2
  rw [e]
  omega

theorem leastL_any (n : Nat) (q : Option Addr) (cap : Nat) (cs : List Ch) (lo : Nat) (qp : Option Addr) (cp : Nat) (vs : List Value) (ls : List (List Int)) (w : World) (hc : Chs n cs) (hr : RowV w q (flatT cs))
    (hls : ListsAt w lo qp vs ls) (hg : GoodL cs ls) (hl : ls.length ≤ 100000) (hne : ls ≠ []) :
    Calls Tryz.prog 86 #[hillV n q cs.length cap, .slice qp ls.length cp] w fun e w' => e = .returned (.int .i64 (leastS cs ls)) ∧ Below w.heap.size w w' := by
  cases ls with
  | nil => exact absurd rfl hne
  | cons p ps => exact leastOf_any n q cap cs lo qp cp vs p ps w hc hr hls hg hl

set_option maxRecDepth 100000 in
set_option maxHeartbeats 1000000 in
theorem Without_any (n : Int) (q : Option Addr) (cap : Nat) (cs : List Ch) (i : Int) (w : World) (hr : RowV w q (flatT cs)) (hcap : cs.length ≤ cap) :
    Calls Tryz.prog 29 #[hillV n q cs.length cap, .int .i64 i] w (RetK w (withoutOf n.toNat cs i).1 (withoutOf n.toNat cs i).2) := by
  have hb0 : Below w.heap.size w (w.alloc (.cells #[.int .i64 n, .slice q cs.length cap] 24)) := (Below.refl _ _).alloc (Nat.le_refl _) _
  have c1 := plansWith_any n q cap cs i _ (hr.below (Nat.le_refl _) hb0) hcap
  have HB := Lib.hid hb0
  rcases withS_cases n i cs with ⟨h1, h2⟩ | ⟨m, rfl, hchs, h0, hgal, h1⟩
  · rw [without_err h2]
    rw [h1] at c1
    have hb : ((withS n.toNat cs i).2 != 0) = true := by simpa using h2
    generalize (withS n.toNat cs i).2 = err at c1 hb h2
    unfold hillV at *
    have C1 := Lib.hid c1
    clear h1 h2 hr hb0 c1
    go_enter Tryz.func29, Tryz.ntmps29
    go_wp2_with (go_at_call 85; refine C1.out.mono ?_; rintro e w1 ⟨q1, cc1, vs1, rfl, hvl, hnil, hls, hb1⟩)
    go_ret2
    exact ⟨rfl, HB.out.on hb1⟩
  · have hans : withoutOf ((m : Int).toNat) cs i = if (oth i (plansS m cs)).length = 0 then (0, 12) else (leastS cs (oth i (plansS m cs)) - leastS cs (plansS m cs), 0) := by
      unfold withoutOf
      rw [Int.toNat_natCast, if_neg (fun h => h h0), hgal, if_neg (by decide)]
    rw [h1] at c1
    rw [hans]
    have hg := goodL_plans hchs
    have hgo : GoodL cs (oth i (plansS m cs)) := hg.sub fun k hk => (List.mem_filter.1 hk).1
    have hlen : (plansS m cs).length ≤ 100000 := by have := plansS_len hchs; omega
    have hleno : (oth i (plansS m cs)).length ≤ 100000 := Nat.le_trans (List.length_filter_le _ _) hlen
    have hsub : oth i (plansS m cs) ≠ [] → plansS m cs ≠ [] := by intro h e; rw [e] at h; exact h rfl
    have hdv := fun W lo q c vs h1 h2 => divided_any i lo q c vs (plansS m cs) W h1 h2 hlen (fun l hl => (hg l hl).2)
    have hle := fun W qp cp vs lo (ls : List (List Int)) hb hls hgl hll hne => leastL_any m q cap cs lo qp cp vs ls W hchs (hr.below (Nat.le_refl _) hb) hls hgl hll hne
    have hbd1 := fun hne => least_bd hchs hg hne
    have hbd2 := fun hne => least_bd hchs hgo hne
    generalize hpl : plansS m cs = ls at *
    unfold RetLL at hdv
    generalize hot : oth i ls = os at *
    generalize hav i ls = hs at hdv
    unfold hillV RetLE at *
    have C1 := Lib.hid c1
    have HDV := Lib.hid hdv
    have HLE := Lib.hid hle
    have HG := Lib.hid hg
    have HGO := Lib.hid hgo
    by_cases hos : os.length = 0
    · rw [if_pos hos]
      have hb : ((os.length : Int) == 0) = true := by simp [hos]
      clear hans hr hb0 c1 hdv hle hg hgo hbd1 hbd2 hsub hot hpl hos h1 h0 hgal hchs
      go_enter Tryz.func29, Tryz.ntmps29
      go_wp2_with (first
        | (go_at_call 85; refine C1.out.mono ?_; rintro e w1 ⟨q1, cc1, vs1, rfl, hvl, hnil, hls, hb1⟩; have HVL := Lib.hid hvl; clear hvl; have hac1 : Below w.heap.size w w1 := HB.out.on hb1)
        | (go_at_call 84; refine (HDV.out w1 _ q1 cc1 vs1 hb1.size hls).mono ?_; rintro e w2 ⟨qa, ca, va, qb, cb, vb, rfl, hla, hlb, hb2⟩))
      go_ret2
      exact ⟨rfl, hac1.on hb2⟩
    · rw [if_neg hos]
      have hb : ((os.length : Int) == 0) = false := beq_eq_false_iff_ne.2 (by omega)
      have hone : os ≠ [] := fun e => hos (by rw [e]; rfl)
      have hlne := hsub hone
      have b1 := hbd1 hlne
      have b2 := hbd2 hone
      have hw : IntKind.i64.wrap (leastS cs os - leastS cs ls) = leastS cs os - leastS cs ls := IntWalk.i64_in _ ⟨by omega, by omega⟩
      have hle1 := fun W qp cp vs lo hb hls => hle W qp cp vs lo os hb hls hgo hleno hone
      have hle2 := fun W qp cp vs lo hb hls => hle W qp cp vs lo ls hb hls hg hlen hlne
      clear HLE
      clear hans hr hb0 c1 hdv hle hg hgo hbd1 hbd2 hsub hot hpl hos h1 h0 hgal hchs hone hlne b1 b2
      generalize leastS cs os = x1 at *
      generalize leastS cs ls = x2 at *
      have HLE1 := Lib.hid hle1
      have HLE2 := Lib.hid hle2
      clear hle1 hle2
      go_enter Tryz.func29, Tryz.ntmps29
      go_upto_region 7 with (first
        | (go_at_call 85; refine C1.out.mono ?_; rintro e w1 ⟨q1, cc1, vs1, rfl, hvl, hnil, hls, hb1⟩; have HVL := Lib.hid hvl; clear hvl; have hac1 : Below w.heap.size w w1 := HB.out.on hb1; obtain ⟨hc1, hf1⟩ := bcell hb1; have hz0 : w.heap.size < w1.heap.size := (by have := hb1.size; simp at this; omega))
        | (go_at_call 84; refine (HDV.out w1 _ q1 cc1 vs1 hb1.size hls).mono ?_; rintro e w2 ⟨qa, ca, va, qb, cb, vb, rfl, hla, hlb, hb2⟩; have hac2 : Below w.heap.size w w2 := hac1.on hb2))
      obtain ⟨d0, d1⟩ : w1.cell? ⟨w.heap.size, 0, none⟩ = some (.int .i64 m) ∧ w1.cell? ⟨w.heap.size, 1, none⟩ = some (.slice q cs.length cap) := ⟨by rw [hc1 _ _ (by simp)]; simp, by rw [hc1 _ _ (by simp)]; simp⟩
      have e0 := (hb2.cell (p := ⟨w.heap.size, 0, none⟩) hz0).trans d0
      have e1 := (hb2.cell (p := ⟨w.heap.size, 1, none⟩) hz0).trans d1
      have hz2 : w.heap.size < w2.heap.size := Nat.lt_of_lt_of_le hz0 hb2.size
      have hls2 := hls.below (Nat.le_refl _) hb2
      clear hc1 hf1 d0 d1 hls hla
      go_region_held3 (fun W => W.cell? ⟨w.heap.size, 0, none⟩ = some (.int .i64 m) ∧ W.cell? ⟨w.heap.size, 1, none⟩ = some (.slice q cs.length cap)) (first | exact ⟨e0, e1⟩ | exact ⟨f0, f1⟩ | exact ⟨g0, g1⟩ | go_keep)
        (first
        | (go_at_call 86; have hcc := HLE1.out w2.drew qb cb vb _ hac2.drew (hlb.below (Nat.le_refl _) (Below.refl _ _).drew); (with_reducible refine hcc.mono ?_); rintro e w3 ⟨rfl, hb3'⟩; have hb3 : Below w2.heap.size w2 w3 := (((Below.refl _ _).drew).on hb3'); have f0 := (hb3.cell (p := ⟨w.heap.size, 0, none⟩) hz2).trans e0; have f1 := (hb3.cell (p := ⟨w.heap.size, 1, none⟩) hz2).trans e1; have hac3 : Below w.heap.size w w3 := hac2.on hb3)
        | (go_at_call 86; have hcc := HLE2.out w3 q1 cc1 vs1 _ hac3 (hls2.below (Nat.le_refl _) hb3); (with_reducible refine hcc.mono ?_); rintro e w4 ⟨rfl, hb4⟩; have g0 := (hb4.cell (p := ⟨w.heap.size, 0, none⟩) (Nat.lt_of_lt_of_le hz2 hb3.size)).trans f0; have g1 := (hb4.cell (p := ⟨w.heap.size, 1, none⟩) (Nat.lt_of_lt_of_le hz2 hb3.size)).trans f1)
        | fail)
      clear e0 e1 f0 f1 g0 g1
      go_wp2
      go_ret2
      exact ⟨rfl, hac3.on hb4⟩
end Go.Proofs.YtadamjleglckpaaGreat.drn

/- Package drain, the walks: Price. -/
namespace Go.Proofs.YtadamjleglckpaaGreat.drn
open Go.RowKit
set_option linter.unusedSimpArgs false
set_option linter.unusedVariables false

set_option maxRecDepth 100000 in
set_option maxHeartbeats 1000000 in
theorem Price_any (n : Int) (q : Option Addr) (cap : Nat) (cs : List Ch) (i : Int) (w : World) (hr : RowV w q (flatT cs)) (hcap : cs.length ≤ cap) :
    Calls Tryz.prog 30 #[hillV n q cs.length cap, .int .i64 i] w (RetK w (priceOf n.toNat cs i).1 (priceOf n.toNat cs i).2) := by
  have hb0 : Below w.heap.size w (w.alloc (.cells #[.int .i64 n, .slice q cs.length cap] 24)) := (Below.refl _ _).alloc (Nat.le_refl _) _
  have c1 := plansWith_any n q cap cs i _ (hr.below (Nat.le_refl _) hb0) hcap
  have HB := Lib.hid hb0
  rcases withS_cases n i cs with ⟨h1, h2⟩ | ⟨m, rfl, hchs, h0, hgal, h1⟩
  · rw [price_err h2]
    rw [h1] at c1
    have hb : ((withS n.toNat cs i).2 != 0) = true := by simpa using h2
    generalize (withS n.toNat cs i).2 = err at c1 hb h2
    unfold hillV at *
    have C1 := Lib.hid c1
    clear h1 h2 hr hb0 c1
    go_enter Tryz.func30, Tryz.ntmps30
    go_wp2_with (go_at_call 85; refine C1.out.mono ?_; rintro e w1 ⟨q1, cc1, vs1, rfl, hvl, hnil, hls, hb1⟩)
    go_ret2
    exact ⟨rfl, HB.out.on hb1⟩
  · obtain ⟨i, rfl⟩ : ∃ k : Nat, i = k := ⟨i.toNat, by have := (isGal_iff _ _).1 hgal; omega⟩
    have hil : i < cs.length := by have := (isGal_iff _ _).1 hgal; omega
    have hans : priceOf ((m : Int).toNat) cs i = if (hav i (plansS m cs)).length = 0 then (0, 12) else if (oth i (plansS m cs)).length = 0 then (0, 13)
        else (leastS cs (oth i (plansS m cs)) - (leastS cs (hav i (plansS m cs)) - (cs.getD i (0, 0, 0)).2.2), 0) := by
      unfold priceOf
      rw [Int.toNat_natCast, if_neg (fun h => h h0), hgal, if_neg (by decide), Int.toNat_natCast]
    have hok := getD_ok hchs.ok hil
    obtain ⟨b, off, rfl, hbz, _, _, hcell⟩ := rowT_at hr hil (Nat.le_refl _) (Below.refl _ _)
    generalize cs.getD i (0, 0, 0) = cc at hans hok hcell
    obtain ⟨_, _, _, hk0, hk20⟩ := hok
    generalize cc.2.2 = kost at *
    rw [h1] at c1
    rw [hans]
    have hg := goodL_plans hchs
    have hgo : GoodL cs (oth i (plansS m cs)) := hg.sub fun k hk => (List.mem_filter.1 hk).1
    have hlen : (plansS m cs).length ≤ 100000 := by have := plansS_len hchs; omega
    have hleno : (oth i (plansS m cs)).length ≤ 100000 := Nat.le_trans (List.length_filter_le _ _) hlen
    have hgh : GoodL cs (hav i (plansS m cs)) := hg.sub fun k hk => (List.mem_filter.1 hk).1
    have hlenh : (hav i (plansS m cs)).length ≤ 100000 := Nat.le_trans (List.length_filter_le _ _) hlen
    have hdv := fun W lo q c vs h1 h2 => divided_any i lo q c vs (plansS m cs) W h1 h2 hlen (fun l hl => (hg l hl).2)
    have hle := fun W qp cp vs lo (ls : List (List Int)) hb hls hgl hll hne => leastL_any m (some ⟨b, off, none⟩) cap cs lo qp cp vs ls W hchs (hr.below (Nat.le_refl _) hb) hls hgl hll hne
    have hbd1 := fun hne => least_bd hchs hgh hne
    have hbd2 := fun hne => least_bd hchs hgo hne
    generalize hpl : plansS m cs = ls at *
    unfold RetLL at hdv
    generalize hot : oth i ls = os at *
    generalize hht : hav i ls = hs at *
    unfold hillV RetLE at *
    have C1 := Lib.hid c1
    have HDV := Lib.hid hdv
    by_cases hhs : hs.length = 0
    · rw [if_pos hhs]
      have hb : ((hs.length : Int) == 0) = true := by simp [hhs]
      clear hans hr hb0 c1 hdv hle hg hgo hgh hbd1 hbd2 hot hht hpl hhs h1 h0 hgal hchs
      go_enter Tryz.func30, Tryz.ntmps30
      go_wp2_with (first
        | (go_at_call 85; refine C1.out.mono ?_; rintro e w1 ⟨q1, cc1, vs1, rfl, hvl, hnil, hls, hb1⟩; have HVL := Lib.hid hvl; clear hvl; have hac1 : Below w.heap.size w w1 := HB.out.on hb1)
        | (go_at_call 84; refine (HDV.out w1 _ q1 cc1 vs1 hb1.size hls).mono ?_; rintro e w2 ⟨qa, ca, va, qb, cb, vb, rfl, hla, hlb, hb2⟩))
      go_ret2
      exact ⟨rfl, hac1.on hb2⟩
    · rw [if_neg hhs]
      have hhb : ((hs.length : Int) == 0) = false := beq_eq_false_iff_ne.2 (by omega)
      by_cases hos : os.length = 0
      · rw [if_pos hos]
        have hb : ((os.length : Int) == 0) = true := by simp [hos]
        clear hans hr hb0 c1 hdv hle hg hgo hgh hbd1 hbd2 hot hht hpl hhs hos h1 h0 hgal hchs
        go_enter Tryz.func30, Tryz.ntmps30
        go_wp2_with (first
          | (go_at_call 85; refine C1.out.mono ?_; rintro e w1 ⟨q1, cc1, vs1, rfl, hvl, hnil, hls, hb1⟩; have HVL := Lib.hid hvl; clear hvl; have hac1 : Below w.heap.size w w1 := HB.out.on hb1)
          | (go_at_call 84; refine (HDV.out w1 _ q1 cc1 vs1 hb1.size hls).mono ?_; rintro e w2 ⟨qa, ca, va, qb, cb, vb, rfl, hla, hlb, hb2⟩))
        go_ret2
        exact ⟨rfl, hac1.on hb2⟩
      · rw [if_neg hos]
        have hb : ((os.length : Int) == 0) = false := beq_eq_false_iff_ne.2 (by omega)
        have hone : os ≠ [] := fun e => hos (by rw [e]; rfl)
        have hhne : hs ≠ [] := fun e => hhs (by rw [e]; rfl)
        have b1 := hbd1 hhne
        have b2 := hbd2 hone
        have hw : IntKind.i64.wrap (leastS cs hs - kost) = leastS cs hs - kost := IntWalk.i64_in _ ⟨by omega, by omega⟩
        have hw2 : IntKind.i64.wrap (leastS cs os - (leastS cs hs - kost)) = leastS cs os - (leastS cs hs - kost) := IntWalk.i64_in _ ⟨by omega, by omega⟩
        have hle1 := fun W qp cp vs lo hb hls => hle W qp cp vs lo hs hb hls hgh hlenh hhne
        have hle2 := fun W qp cp vs lo hb hls => hle W qp cp vs lo os hb hls hgo hleno hone
        have hil2 : (i : Int) < (cs.length : Int) := by omega
        clear hans hr hb0 c1 hdv hle hg hgo hgh hbd1 hbd2 hot hht hpl hhs hos h1 h0 hgal hchs hone hhne b1 b2
        generalize leastS cs hs = x1 at *
        generalize leastS cs os = x2 at *
        have HLE1 := Lib.hid hle1
        have HLE2 := Lib.hid hle2
        clear hle1 hle2
        go_enter Tryz.func30, Tryz.ntmps30
        go_upto_region 9 with (first
          | (go_at_call 85; refine C1.out.mono ?_; rintro e w1 ⟨q1, cc1, vs1, rfl, hvl, hnil, hls, hb1⟩; have HVL := Lib.hid hvl; clear hvl; have hac1 : Below w.heap.size w w1 := HB.out.on hb1; obtain ⟨hc1, hf1⟩ := bcell hb1; have hz0 : w.heap.size < w1.heap.size := (by have := hb1.size; simp at this; omega))
          | (go_at_call 84; refine (HDV.out w1 _ q1 cc1 vs1 hb1.size hls).mono ?_; rintro e w2 ⟨qa, ca, va, qb, cb, vb, rfl, hla, hlb, hb2⟩; have hac2 : Below w.heap.size w w2 := hac1.on hb2))
        obtain ⟨d0, d1⟩ : w1.cell? ⟨w.heap.size, 0, none⟩ = some (.int .i64 m) ∧ w1.cell? ⟨w.heap.size, 1, none⟩ = some (.slice (some ⟨b, off, none⟩) cs.length cap) := ⟨by rw [hc1 _ _ (by simp)]; simp, by rw [hc1 _ _ (by simp)]; simp⟩
        have e0 := (hb2.cell (p := ⟨w.heap.size, 0, none⟩) hz0).trans d0
        have e1 := (hb2.cell (p := ⟨w.heap.size, 1, none⟩) hz0).trans d1
        have e2 := (hac2.cell (p := ⟨b, off + i * 3 + 2, none⟩) hbz).trans hcell
        have hz2 : w.heap.size < w2.heap.size := Nat.lt_of_lt_of_le hz0 hb2.size
        have hbz2 : b < w2.heap.size := Nat.lt_of_lt_of_le hbz hac2.size
        clear hc1 hf1 d0 d1 hls
        go_region_held3 (fun W => W.cell? ⟨w.heap.size, 0, none⟩ = some (.int .i64 m) ∧ W.cell? ⟨w.heap.size, 1, none⟩ = some (.slice (some ⟨b, off, none⟩) cs.length cap) ∧ W.cell? ⟨b, off + i * 3 + 2, none⟩ = some (.int .i64 kost)) (first | exact ⟨e0, e1, e2⟩ | exact ⟨f0, f1, f2⟩ | go_keep)
          (first
          | (go_at_call 86; have hcc := HLE1.out w2.drew qa ca va _ hac2.drew (hla.below (Nat.le_refl _) (Below.refl _ _).drew); (with_reducible refine hcc.mono ?_); rintro e w3 ⟨rfl, hb3'⟩; have hb3 : Below w2.heap.size w2 w3 := (((Below.refl _ _).drew).on hb3'); have f0 := (hb3.cell (p := ⟨w.heap.size, 0, none⟩) hz2).trans e0; have f1 := (hb3.cell (p := ⟨w.heap.size, 1, none⟩) hz2).trans e1; have f2 := (hb3.cell (p := ⟨b, off + i * 3 + 2, none⟩) hbz2).trans e2; have hac3 : Below w.heap.size w w3 := hac2.on hb3)
          | fail)
        have hcc2 := HLE2.out w3 qb cb vb _ hac3 (hlb.below (Nat.le_refl _) hb3)
        have HCC2 := Lib.hid hcc2
        clear hcc2 e0 e1 e2 hla hlb
        go_wp2_with (go_at_call 86; refine HCC2.out.mono ?_; rintro e w4 ⟨rfl, hb4⟩)
        go_ret2
        exact ⟨rfl, hac3.on hb4⟩
end Go.Proofs.YtadamjleglckpaaGreat.drn

/- Package drain, the walks: Equal, Most. -/
namespace Go.Proofs.YtadamjleglckpaaGreat.drn
open Go.RowKit
set_option linter.unusedSimpArgs false
set_option linter.unusedVariables false
theorem equal_some (n : Nat) (cs : List Ch) : equalOf n cs = match (someS n cs).1 with
    | [] => (0, (someS n cs).2)
    | p :: ps => ((((p :: ps).filter fun r => costS cs r == leastS cs (p :: ps)).length : Nat), 0) := by
  by_cases h0 : errD n cs = 0
  · have e1 : equalOf n cs = if (plansS n cs).length = 0 then (0, 12) else (((((plansS n cs).filter fun p => costS cs p == leastS cs (plansS n cs)).length : Nat) : Int), 0) := by rw [equalOf, if_neg (fun h => h h0)]
    have e2 : someS n cs = if (plansS n cs).length = 0 then ([], 12) else (plansS n cs, 0) := by rw [someS, if_neg (fun h => h h0)]
    rw [e1, e2]
    generalize plansS n cs = ls
    cases ls with
    | nil => rfl
    | cons p ps => rfl
  · have e1 : equalOf n cs = (0, errD n cs) := by rw [equalOf, if_pos h0]
    have e2 : someS n cs = ([], errD n cs) := by rw [someS, if_pos h0]
    rw [e1, e2]
theorem filter_len_succ {α : Type} (p : α → Bool) (l : List α) (k : Nat) (d : α) (h : k < l.length) : ((l.take (k + 1)).filter p).length = ((l.take k).filter p).length + if p (l.getD k d) then 1 else 0 := by
  rw [filter_take_succ p l k d h, List.length_append]
  congr 1
  split <;> rfl

set_option maxRecDepth 100000 in
set_option maxHeartbeats 1000000 in
theorem Equal_any (n : Int) (q : Option Addr) (cap : Nat) (cs : List Ch) (w : World) (hr : RowV w q (flatT cs)) (hcap : cs.length ≤ cap) :
    Calls Tryz.prog 33 #[hillV n q cs.length cap] w (RetK w (equalOf n.toNat cs).1 (equalOf n.toNat cs).2) := by
  have hb0 : Below w.heap.size w (w.alloc (.cells #[.int .i64 n, .slice q cs.length cap] 24)) := (Below.refl _ _).alloc (Nat.le_refl _) _
  have c1 := somePlans_any n q cap cs _ (hr.below (Nat.le_refl _) hb0) hcap
  have HB := Lib.hid hb0
  rw [equal_some]
  rcases someS_cases n cs with ⟨h1, h2⟩ | ⟨m, p, ps, rfl, hchs, hp, h1⟩
  · rw [h1] at c1 ⊢
    have hb : ((someS n.toNat cs).2 != 0) = true := by simpa using h2
    generalize (someS n.toNat cs).2 = err at c1 hb h2
    unfold hillV at *
    have C1 := Lib.hid c1
    clear h1 h2 hr hb0 c1
    go_enter Tryz.func33, Tryz.ntmps33
    go_wp2_with (go_at_call 83; refine C1.out.mono ?_; rintro e w1 ⟨q1, cc1, vs1, rfl, hvl, hnil, hls, hb1⟩)
    go_ret2
    exact ⟨rfl, HB.out.on hb1⟩
  · have hgood : GoodL cs (p :: ps) := by rw [← hp]; exact goodL_plans hchs
    have hlen : (p :: ps).length ≤ 100000 := by rw [← hp]; have := plansS_len hchs; omega
    rw [h1] at c1 ⊢
    show Calls _ _ _ _ (RetK w ((((p :: ps).filter fun r => costS cs r == leastS cs (p :: ps)).length : Nat) : Int) 0)
    have hne : p :: ps ≠ [] := by simp
    generalize p :: ps = ls at *
    have hle := fun W qp cp vs lo hb hls => leastL_any m q cap cs lo qp cp vs ls W hchs (hr.below (Nat.le_refl _) hb) hls hgood hlen hne
    have hco := fun W (qq : Option Addr) kk l hb hrr hm => costOf_any m q cap cs qq kk l W hchs (hr.below (Nat.le_refl _) hb) hrr (hgood l hm).1 (hgood l hm).2
    generalize leastS cs ls = lst at *
    unfold hillV RetLE at *
    have C1 := Lib.hid c1
    have HLE := Lib.hid hle
    have HCO := Lib.hid hco
    clear h1 hr hb0 c1 hle hco hp hgood hchs hne
    go_enter Tryz.func33, Tryz.ntmps33
    go_wp2_with (first
      | (go_at_call 83; refine C1.out.mono ?_; rintro e w1 ⟨q1, cc1, vs1, rfl, hvl, hnil, hls, hb1⟩; have HVL := Lib.hid hvl; clear hvl hnil; obtain ⟨hc1, hf1⟩ := bcell hb1; have hac1 : Below w.heap.size w w1 := HB.out.on hb1; have hz0 : w.heap.size < w1.heap.size := (by have := hb1.size; simp at this; omega))
      | (go_at_call 86; refine (HLE.out w1 q1 cc1 vs1 _ hac1 hls).mono ?_; rintro e w2 ⟨rfl, hb2⟩))
    obtain ⟨d0, d1⟩ : w1.cell? ⟨w.heap.size, 0, none⟩ = some (.int .i64 m) ∧ w1.cell? ⟨w.heap.size, 1, none⟩ = some (.slice q cs.length cap) := ⟨by rw [hc1 _ _ (by simp)]; simp, by rw [hc1 _ _ (by simp)]; simp⟩
    have hac2 := hac1.on hb2
    have hls2 := hls.below (Nat.le_refl _) hb2
    have HLS := Lib.hid hls2
    clear hc1 hf1 hb1 hls hls2
    go_loopw [7, 23] (fun v i wr => ∃ k : Nat, k ≤ ls.length ∧ i = .int .i64 k ∧ v = .int .i64 (((ls.take k).filter fun r => costS cs r == lst).length : Nat) ∧ Below w2.heap.size w2 wr) (fun _ i _ => ls.length - (intOf i).toNat)
    case atStart => exact ⟨0, Nat.zero_le _, rfl, rfl, Below.refl _ _⟩
    case round =>
      obtain ⟨k, hk, rfl, rfl, hbel⟩ := hrel
      by_cases hlt : k < ls.length
      · obtain ⟨v, hv, hlv⟩ := InL.get k HLS.out.2.1 hlt
        obtain ⟨b, off, rfl, hb, hcell⟩ := HLS.out.1.here (k := k) (by rw [HVL.out]; exact hlt)
        have h1 := (hbel.cell (p := ⟨b, off + k, none⟩) hb).trans (hcell k v hv)
        have hst := filter_len_succ (fun r => costS cs r == lst) ls k [] hlt
        have hm := getD_mem ls k [] hlt
        have hbd : ((ls.take k).filter fun r => costS cs r == lst).length ≤ 100000 := Nat.le_trans (List.length_filter_le _ _) (by rw [List.length_take]; omega)
        generalize ls.getD k [] = l at hlv hst hm
        obtain ⟨ql, cl, rfl, hrl, _, _⟩ := hlv
        have hcc := HCO.out wr ql cl l (hac2.on hbel) (hrl.below (Nat.le_refl _) hbel) hm
        generalize costS cs l = x at hcc hst
        generalize ((ls.take k).filter fun r => costS cs r == lst).length = cnt at hst hbd ⊢
        have e0 := (hbel.cell (p := ⟨w.heap.size, 0, none⟩) (Nat.lt_of_lt_of_le hz0 hb2.size)).trans ((hb2.cell (p := ⟨w.heap.size, 0, none⟩) hz0).trans d0)
        have e1 := (hbel.cell (p := ⟨w.heap.size, 1, none⟩) (Nat.lt_of_lt_of_le hz0 hb2.size)).trans ((hb2.cell (p := ⟨w.heap.size, 1, none⟩) hz0).trans d1)
        have hlk : (k : Int) < (ls.length : Int) := by omega
        have hw : IntKind.i64.wrap ((cnt : Int) + 1) = ((cnt + 1 : Nat) : Int) := by rw [IntWalk.i64_in _ ⟨by omega, by omega⟩]; omega
        have HCC := Lib.hid hcc
        have HST := Lib.hid hst
        clear hcc hst hv hcell hrl
        by_cases hx : x = lst
        · have hxb : (x == lst) = true := by simpa using hx
          have HXX := Lib.hid hxb
          go_wp2_with (go_at_call 87; refine HCC.out.mono ?_; rintro e w3 ⟨rfl, hb3⟩)
          refine ⟨⟨k + 1, hlt, by go_num, by rw [HST.out, if_pos HXX.out]; rfl, hbel.on hb3⟩, by simp [intOf]; omega⟩
        · have hxb : (x == lst) = false := by simpa using hx
          have HXX := Lib.hid hxb
          go_wp2_with (go_at_call 87; refine HCC.out.mono ?_; rintro e w3 ⟨rfl, hb3⟩)
          refine ⟨⟨k + 1, hlt, by go_num, by rw [HST.out, if_neg (by rw [HXX.out]; decide)]; rfl, hbel.on hb3⟩, by simp [intOf]; omega⟩
      · obtain rfl : k = ls.length := by omega
        rw [List.take_length]
        go_wp2
        go_ret2
        exact ⟨rfl, hac2.on hbel⟩
end Go.Proofs.YtadamjleglckpaaGreat.drn

/- Package drain, the walks: Needed. -/
namespace Go.Proofs.YtadamjleglckpaaGreat.drn
open Go.RowKit
set_option linter.unusedSimpArgs false
set_option linter.unusedVariables false
theorem needed_some (n : Nat) (cs : List Ch) : neededOf n cs = match (someS n cs).1 with
    | [] => ([], (someS n cs).2)
    | p :: ps => (rangeF (fun i => (oth i (p :: ps)).length == 0) cs.length, 0) := by
  by_cases h0 : errD n cs = 0
  · have e1 : neededOf n cs = if (plansS n cs).length = 0 then ([], 12) else (rangeF (fun i => (oth i (plansS n cs)).length == 0) cs.length, 0) := by rw [neededOf, if_neg (fun h => h h0)]; rfl
    have e2 : someS n cs = if (plansS n cs).length = 0 then ([], 12) else (plansS n cs, 0) := by rw [someS, if_neg (fun h => h h0)]
    rw [e1, e2]
    generalize plansS n cs = ls
    cases ls with
    | nil => rfl
    | cons p ps => rfl
  · have e1 : neededOf n cs = ([], errD n cs) := by rw [neededOf, if_pos h0]
    have e2 : someS n cs = ([], errD n cs) := by rw [someS, if_pos h0]
    rw [e1, e2]

set_option maxRecDepth 100000 in
set_option maxHeartbeats 1000000 in
theorem Needed_any (n : Int) (q : Option Addr) (cap : Nat) (cs : List Ch) (w : World) (hr : RowV w q (flatT cs)) (hcap : cs.length ≤ cap) :
    Calls Tryz.prog 27 #[hillV n q cs.length cap] w (RetI w (neededOf n.toNat cs).1 (neededOf n.toNat cs).2) := by
  have hb0 : Below w.heap.size w (w.alloc (.cells #[.int .i64 n, .slice q cs.length cap] 24)) := (Below.refl _ _).alloc (Nat.le_refl _) _
  have c1 := somePlans_any n q cap cs _ (hr.below (Nat.le_refl _) hb0) hcap
  have HB := Lib.hid hb0
  rw [needed_some]
  rcases someS_cases n cs with ⟨h1, h2⟩ | ⟨m, p, ps, rfl, hchs, hp, h1⟩
  · rw [h1] at c1 ⊢
    have hb : ((someS n.toNat cs).2 != 0) = true := by simpa using h2
    generalize (someS n.toNat cs).2 = err at c1 hb h2
    unfold hillV at *
    have C1 := Lib.hid c1
    clear h1 h2 hr hb0 c1
    go_enter Tryz.func27, Tryz.ntmps27
    go_wp2_with (go_at_call 83; refine C1.out.mono ?_; rintro e w1 ⟨q1, cc1, vs1, rfl, hvl, hnil, hls, hb1⟩)
    go_ret2
    exact ⟨none, 0, rfl, .inl rfl, fun _ => rfl, by simp, HB.out.on hb1⟩
  · have hgood : GoodL cs (p :: ps) := by rw [← hp]; exact goodL_plans hchs
    have hlen : (p :: ps).length ≤ 100000 := by rw [← hp]; have := plansS_len hchs; omega
    have hcl : cs.length ≤ 1000 := by have := hchs.many; omega
    rw [h1] at c1 ⊢
    show Calls _ _ _ _ (RetI w (rangeF (fun i => (oth i (p :: ps)).length == 0) cs.length) 0)
    have hg : ∀ l ∈ p :: ps, l.length ≤ 1000 := fun l hl => (hgood l hl).2
    generalize p :: ps = ls at *
    have hdv := fun (x : Int) W lo q c vs h1 h2 => divided_any x lo q c vs ls W h1 h2 hlen hg
    unfold hillV RetLE at *
    have C1 := Lib.hid c1
    have HDV := Lib.hid hdv
    clear h1 hr hb0 c1 hdv hp hgood hchs hg
    go_enter Tryz.func27, Tryz.ntmps27
    go_wp2_with (go_at_call 83; refine C1.out.mono ?_; rintro e w1 ⟨q1, cc1, vs1, rfl, hvl, hnil, hls, hb1⟩; have HVL := Lib.hid hvl; have HLS := Lib.hid hls; clear hvl hnil hls; obtain ⟨hc1, hf1⟩ := bcell hb1; have hac1 : Below w.heap.size w w1 := HB.out.on hb1; have hz0 : w.heap.size < w1.heap.size := (by have := hb1.size; simp at this; omega))
    obtain ⟨d0, d1⟩ : w1.cell? ⟨w.heap.size, 0, none⟩ = some (.int .i64 m) ∧ w1.cell? ⟨w.heap.size, 1, none⟩ = some (.slice q cs.length cap) := ⟨by rw [hc1 _ _ (by simp)]; simp, by rw [hc1 _ _ (by simp)]; simp⟩
    clear hc1 hf1 hb1
    go_loopw [6, 21] (fun v i wr => ∃ k : Nat, k ≤ cs.length ∧ i = .int .i64 k ∧ wr.ownsRow w1.heap.size 3 1 v (rangeF (fun i => (oth i ls).length == 0) k).length (flatI (rangeF (fun i => (oth i ls).length == 0) k)) ∧ Below w1.heap.size w1 wr) (fun _ i _ => cs.length - (intOf i).toNat)
    case atStart => exact ⟨0, Nat.zero_le _, rfl, World.ownsRow_nil _ _ _ _, Below.refl _ _⟩
    case round =>
      obtain ⟨k, hk, rfl, hown, hbel⟩ := hrel
      by_cases hlt : k < cs.length
      · have hst := rangeF_succ (fun i => (oth i ls).length == 0) k
        have hle := rangeF_len (fun i => (oth i ls).length == 0) k
        generalize rangeF (fun i => (oth i ls).length == 0) k = xs at hown hst hle
        have hcc := HDV.out (k : Int) wr _ q1 cc1 vs1 (Nat.le_trans hac1.size hbel.size) (HLS.out.lower (by simp) |>.below (Nat.le_refl _) hbel)
        unfold RetLL at hcc
        generalize oth (k : Int) ls = O at hcc hst
        obtain ⟨L, hL⟩ : ∃ L, O.length = L := ⟨_, rfl⟩
        rw [hL] at hcc hst
        have HCC := Lib.hid hcc
        have HST := Lib.hid hst
        have HO := Lib.hid hown
        have hlk : (k : Int) < (cs.length : Int) := by omega
        clear hcc hst hown hL
        by_cases hx : L = 0
        · subst hx
          go_wp2_with (first
            | (go_at_call 84; refine HCC.out.mono ?_; rintro e w3 ⟨q3, c3, vs3, q4, c4, vs4, rfl, _, _, hb3⟩; have HO1 := Lib.hid (owns_below HO.out (Nat.le_refl _) hb3); have hz1 := hb3.size)
            | (at_builtin; refine app_int _ rfl (.tmp 33) (.tmp 35) rfl w1.heap.size _ xs (k : Int) rfl (HO1.out.alloc _) w3.heap.size 1 rfl (by simp) (by omega) (by have := hbel.size; simp; omega) ?_; intro v2 w4 hown2 hgr2 hbk2; have hb4 : Below w1.heap.size w1 w4 := (hbel.on hb3).trans (((Below.refl _ _).alloc (by have := hbel.size; omega) _).trans (grown_below (HO1.out.alloc _) (by have := hbel.size; simp; omega) hgr2))))
          exact ⟨⟨k + 1, hlt, by go_num, by rw [HST.out]; exact hown2, hb4⟩, by simp [intOf]; omega⟩
        · have hxn : ¬ (L : Int) = 0 := by omega
          have hxb : ((L : Int) == 0) = false := by simpa using hxn
          go_wp2_with (go_at_call 84; refine HCC.out.mono ?_; rintro e w3 ⟨q3, c3, vs3, q4, c4, vs4, rfl, _, _, hb3⟩; have HO1 := Lib.hid (owns_below HO.out (Nat.le_refl _) hb3); have hz1 := hb3.size)
          exact ⟨⟨k + 1, hlt, by go_num, by rw [HST.out, if_neg (by simpa using hx), List.append_nil]; exact HO1.out, hbel.on hb3⟩, by simp [intOf]; omega⟩
      · obtain rfl : k = cs.length := by omega
        obtain ⟨q5, c5, rfl, hrow5, hq5, hqb5⟩ := rowV_of_owns hown (by intro h; rw [List.length_eq_zero_iff] at h; rw [h]; rfl)
        go_wp2
        go_ret2
        exact ⟨q5, c5, rfl, hrow5, hq5, fun a ha => ⟨Nat.le_trans hac1.size (hqb5 a ha).1, (hqb5 a ha).2⟩, hac1.on hbel⟩
end Go.Proofs.YtadamjleglckpaaGreat.drn

/- slices.Clone at lists of channels. -/
namespace Go.Proofs.YtadamjleglckpaaGreat.drn
open Go.RowKit
set_option linter.unusedSimpArgs false
set_option linter.unusedVariables false
theorem flatT_one (cs : List Ch) : ∀ u ∈ flatT cs, u.oneCell' = true := by
  intro u hu
  unfold flatT at hu
  obtain ⟨c, _, h⟩ := List.mem_flatMap.1 hu
  simp at h
  rcases h with rfl | rfl | rfl <;> rfl
/-- append of a whole list of channels to one of one's own -/
theorem app_tris {P : List Oper → Prop} (w : World) {ops : Array Oper} {rest : List Oper} {o : Oper} {a : Act} {Q : Exit → Act → World → Prop} (hgd : o.guard = none) (s x : Operand)
    (ho : o.op = .call { callee := .builtin .append, args := #[s, x], argTypes := #[22, 22] }) (base : Nat) (v : Value) (ys xs : List Ch) (hs : a.eval s = v)
    (hown : w.ownsRow base 51 3 v ys.length (flatT ys)) (ad : Addr) (c : Nat) (hx : a.eval x = .slice (some ad) xs.length c) (hr : RowV w (some ad) (flatT xs)) (hl : ys.length + xs.length ≤ 1000) (hbase : base ≤ w.heap.size)
    (h : ∀ v' w', w'.ownsRow base 51 3 v' (ys ++ xs).length (flatT (ys ++ xs)) → w.grownBy w' v.ownBlock → wpList Tryz.prog ops Q rest (a.put o.dst v') w') : wpList Tryz.prog ops Q (o :: rest) a w := by
  obtain ⟨i0, hi, hz0, hz1, hz2⟩ := info_parts infoT
  have happ : flatT (ys ++ xs) = flatT ys ++ flatT xs := by simp [flatT]
  refine wpList_append_own w hgd s x 22 ho base 51 i0 _ 3 24 Tryz.underlying22 hi hz0 hz1 hz2 rfl (by decide) v ys.length (flatT ys) hs hown ad xs.length c (flatT xs) hx (by rw [flatT_length]) ?_ ?_ (by unfold maxLen; omega) (by omega) hbase ?_
  · intro j u hj
    rcases hr with h0 | ⟨b, off, e, _, hc⟩
    · rw [h0] at hj; simp at hj
    · simp only [Option.some.injEq] at e
      subst e
      rw [addr_add_off]
      exact hc j u hj
  · exact flatT_one xs
  · intro v' w' h1 h2 _
    refine h v' w' ?_ h2
    rw [happ, List.length_append]
    exact h1
theorem eqNilT (w : World) (a : Option Addr) (n c : Nat) : (binOp .eql 22 (.slice a n c) (.slice none 0 0)).run Tryz.prog w = .ok (.bool a.isNone) w := Lib.run_eql_slice_nil w 22 51 a n c 0 0 Tryz.underlying22
attribute [local go_sem] eqNilT
set_option maxRecDepth 100000 in
theorem cloneT_any (ad : Addr) (c : Nat) (xs : List Ch) (w : World) (hr : RowV w (some ad) (flatT xs)) (hl : xs.length ≤ 1000) :
    Calls Tryz.prog 31 #[.slice (some ad) xs.length c] w (RetV w 51 3 xs.length (flatT xs)) := by
  have hb0 : Below w.heap.size w (w.alloc (.cells #[] 51)) := (Below.refl _ _).alloc (Nat.le_refl _) _
  have hr' := hr.below (Nat.le_refl _) hb0
  have hown : (w.alloc (.cells #[] 51)).ownsRow w.heap.size 51 3 (.slice (some ⟨w.heap.size, 0, none⟩) 0 0) ([] : List Ch).length (flatT []) :=
    World.ownsRow_made (base := w.heap.size) (e := 51) (size := 3) w #[] 0 (Nat.le_refl _) (by decide) rfl
  have HR := Lib.hid hr'
  have HO := Lib.hid hown
  have HB := Lib.hid hb0
  clear hr hr' hown hb0
  go_enter Tryz.func31, Tryz.ntmps31
  go_wp2_with (at_builtin; refine app_tris (P := fun _ => True) _ rfl (.tmp 5) (.tmp 6) rfl w.heap.size _ [] xs rfl HO.out ad c rfl HR.out (by simp; omega) (by simp) ?_; intro v' w' hown' hgrow)
  have hb := grown_below HO.out (by simp) hgrow
  go_ret
  exact ⟨v', rfl, hown', HB.out.trans hb⟩
end Go.Proofs.YtadamjleglckpaaGreat.drn

/- Copies of channels whose cells may be stored to. -/
namespace Go.Proofs.YtadamjleglckpaaGreat.drn
open Go.RowKit
set_option linter.unusedSimpArgs false
set_option linter.unusedVariables false
/-- a copy of channels in new memory, whose cells may be stored to -/
def CopyT (wc W' : World) (cs : List Ch) (k : Nat) (e : Ending) (w' : World) : Prop :=
  ∃ g c, e = .returned (.slice (some ⟨g, 0, none⟩) k c) ∧ RowV w' (some ⟨g, 0, none⟩) (flatT cs) ∧ W'.heap.size ≤ g ∧ k ≤ c ∧ (∀ i, w'.frozen? ⟨g, i, none⟩ = false) ∧ Below wc.heap.size wc w' ∧ Below W'.heap.size W' w'
theorem copyT_of {wc W' : World} {cs : List Ch} {k : Nat} (hk : k ≠ 0) (hb : Below wc.heap.size wc W') {e : Ending} {w' : World} (h : RetV W' 51 3 k (flatT cs) e w') : CopyT wc W' cs k e w' := by
  obtain ⟨v, rfl, hown, hb2⟩ := h
  have hcap := own_cap3 hown
  obtain ⟨q, c, rfl, hrow, hqn, hqb⟩ := rowV_of_owns hown (fun h => absurd h hk)
  obtain ⟨_, ⟨_, h0⟩ | ⟨g, cap, cur, e, hg, hh, _⟩⟩ := hown
  · exact absurd h0 hk
  · injection e with e1 e2 e3
    subst e1
    subst e3
    exact ⟨g, _, rfl, hrow, hg, hcap _ _ rfl, fun i => by simp [World.frozen?, hh], hb.on hb2, hb2⟩
theorem rowV_lt {w : World} {b off : Nat} {vs : List Value} (h : RowV w (some ⟨b, off, none⟩) vs) (hn : 0 < vs.length) : b < w.heap.size := by
  obtain ⟨b', off', e, hz, _⟩ := h.here hn
  simp only [Option.some.injEq, Addr.mk.injEq] at e
  obtain ⟨rfl, _, _⟩ := e
  exact hz
/-- where a body stands once it has a copied hill's place -/
structure Dear (w W : World) (n k g c B : Nat) (cs : List Ch) : Prop where
  var : Cell2 W B (.int .i64 n) (.slice (some ⟨g, 0, none⟩) k c)
  row : RowV W (some ⟨g, 0, none⟩) (flatT cs)
  fz : ∀ i, W.frozen? ⟨g, i, none⟩ = false
  ne : g ≠ B
  lo : w.heap.size ≤ g
  bel : Below w.heap.size w W
end Go.Proofs.YtadamjleglckpaaGreat.drn

/- Package drain, the walks: Narrow. -/
namespace Go.Proofs.YtadamjleglckpaaGreat.drn
open Go.RowKit
set_option linter.unusedSimpArgs false
set_option linter.unusedVariables false

theorem Narrow1_any (n s B : Nat) (cs : List Ch) (w : World) (hc : Chs n cs) (hs : s < 2 ^ n) (hB : ChsAt w B n cs) :
    Calls Tryz.prog 69 #[.int .u64 s, .pointer (some ⟨B, 0, none⟩)] w fun e w' => e = .returned (.int .i64 (leavingS cs s).length) ∧ Below w.heap.size w w' := by
  obtain ⟨q, cap, h1, h2, h3⟩ := hB
  go_enter Tryz.func69, Tryz.ntmps69
  go_wp2_with (go_at_call 59; refine (leaving_any n s q cap cs w hc hs h3).mono ?_; rintro e w5 ⟨v5, rfl, hown5, hb5⟩; obtain ⟨q5, c5, rfl, hrow5, hq5, hqb5⟩ := rowV_of_owns hown5 (by intro h; rw [List.length_eq_zero_iff] at h; rw [h]; rfl))
  go_ret
  exact ⟨rfl, hb5⟩
/-- a function value in a block, which another closure has captured -/
def FunAt (w : World) (B C : Nat) : Prop := B < w.heap.size ∧ w.cell? ⟨B, 0, none⟩ = some (.func (.func 69) #[] #[.pointer (some ⟨C, 0, none⟩)])
theorem FunAt.below {w w' : World} {B C : Nat} (h : FunAt w B C) {N : Nat} (hN : w.heap.size ≤ N) (hb : Below N w w') : FunAt w' B C :=
  ⟨Nat.lt_of_lt_of_le h.1 hb.size, (hb.cell (p := ⟨B, 0, none⟩) (Nat.lt_of_lt_of_le h.1 hN)).trans h.2⟩
set_option maxRecDepth 100000 in
set_option maxHeartbeats 1000000 in
theorem Narrow2_any (n s t B C : Nat) (cs : List Ch) (w : World) (hc : Chs n cs) (hs : s < 2 ^ n) (ht : t < 2 ^ n) (hC : ChsAt w C n cs) (hB : FunAt w B C) :
    Calls Tryz.prog 70 #[.int .u64 s, .int .u64 t, .pointer (some ⟨B, 0, none⟩)] w fun e w' => (∃ c : Int, e = .returned (.int .i64 c) ∧ (c < 0 ↔ (leavingS cs s).length < (leavingS cs t).length)) ∧ Below w.heap.size w w' := by
  obtain ⟨z0, c0⟩ := hB
  have hn1 := fun W s hs hb => Narrow1_any n s C cs W hc hs (hC.below (Nat.le_refl _) hb)
  have HN := Lib.hid hn1
  clear hn1
  go_enter Tryz.func70, Tryz.ntmps70
  go_wp2
  go_region_held3 (fun W => W.cell? ⟨B, 0, none⟩ = some (.func (.func 69) #[] #[.pointer (some ⟨C, 0, none⟩)])) (first | exact c0 | exact d0 | exact e0 | go_keep)
    (first
    | (go_at_call 69; refine (HN.out _ s hs (Below.refl _ _).drew).mono ?_; rintro e w1 ⟨rfl, hb1'⟩; have hb1 : Below w.heap.size w w1 := (((Below.refl _ _).drew).on hb1'); have d0 := (hb1.cell (p := ⟨B, 0, none⟩) z0).trans c0)
    | (go_at_call 69; refine (HN.out _ t ht hb1).mono ?_; rintro e w2 ⟨rfl, hb2⟩; have hac2 : Below w.heap.size w w2 := hb1.on hb2; have e0 := (hac2.cell (p := ⟨B, 0, none⟩) z0).trans c0)
    | (go_at_call 62; refine (cmpI_any _ _ _).mono ?_; rintro e w3 ⟨⟨c, rfl, hc⟩, rfl⟩)
    | fail)
  go_wp2
  go_ret
  exact ⟨⟨c, rfl, by rw [hc]; omega⟩, hac2⟩
theorem ent_Narrow1 : Enters 69 := fun args w => by kernel_rfl
theorem ent_Narrow2 : Enters 70 := fun args w => by kernel_rfl
end Go.Proofs.YtadamjleglckpaaGreat.drn

/- Package drain, the walks: Narrow. -/
namespace Go.Proofs.YtadamjleglckpaaGreat.drn
open Go.RowKit
set_option linter.unusedSimpArgs false
set_option linter.unusedVariables false

/-- a new list of ints, a number, and an error -/
def RetN (w : World) (l : List Int) (k err : Int) (e : Ending) (w' : World) : Prop :=
  ∃ q c, e = .returned (.tuple #[.slice q l.length c, .int .i64 k, .int .i64 err]) ∧ RowV w' q (flatI l) ∧ (q = none → c = 0) ∧ (∀ a, q = some a → w.heap.size ≤ a.block ∧ a.block < w'.heap.size) ∧ Below w.heap.size w w'

set_option maxRecDepth 100000 in
set_option maxHeartbeats 2000000 in
theorem Narrow_any (n : Int) (q : Option Addr) (cap : Nat) (cs : List Ch) (w : World) (hr : RowV w q (flatT cs)) (hcap : cs.length ≤ cap) :
    Calls Tryz.prog 15 #[hillV n q cs.length cap] w (RetN w (narrowOf n.toNat cs).1 (narrowOf n.toNat cs).2.1 (narrowOf n.toNat cs).2.2) := by
  have hb0 : Below w.heap.size w (w.alloc (.cells #[.int .i64 n, .slice q cs.length cap] 24)) := (Below.refl _ _).alloc (Nat.le_refl _) _
  have c1 := Check_any n q cap cs _ (hr.below (Nat.le_refl _) hb0) hcap
  unfold hillV at c1 ⊢
  have C1 := Lib.hid c1
  have HB := Lib.hid hb0
  clear c1
  by_cases h0 : errD n cs = 0
  · obtain ⟨m, rfl, hchs⟩ := chs_of h0
    have hgl : (groupsS m 0).length ≤ 1000 := by
      rw [groupsS_len]
      have : 2 ^ m ≤ 64 := Nat.pow_le_pow_right (by decide) hchs.n6
      omega
    have hmem : ∀ s ∈ groupsS m 0, s < 2 ^ m := fun s hs => (mem_groups.1 hs).2
    obtain ⟨x, xs, hxs⟩ : ∃ x xs, groupsS m 0 = x :: xs := by
      obtain ⟨k, rfl⟩ : ∃ k, m = k + 1 := ⟨m - 1, by have := hchs.n1; omega⟩
      exact ⟨_, _, rfl⟩
    have hans : narrowOf ((m : Int).toNat) cs = (listS (minFrom (fun s => (leavingS cs s).length) x xs), ((leavingS cs (minFrom (fun s => (leavingS cs s).length) x xs)).length : Int), 0) := by
      unfold narrowOf
      rw [Int.toNat_natCast, if_neg (by rw [h0]; simp), hxs, minFrom_first]
    rw [hans]
    have hgo := fun W => groupsOf_any m q cs.length cap W hchs.n6
    rw [hxs] at hgl hmem
    simp only [hxs] at hgo
    have hmn : minFrom (fun s => (leavingS cs s).length) x xs < 2 ^ m := by
      rcases minFrom_mem (fun s => (leavingS cs s).length) xs x with h | h
      · rw [h]; exact hmem x (by simp)
      · exact hmem _ (by simp [h])
    obtain ⟨r, hrr⟩ : ∃ r, minFrom (fun s => (leavingS cs s).length) x xs = r := ⟨_, rfl⟩
    rw [hrr] at hmn ⊢
    have HRR := Lib.hid hrr
    have HR := Lib.hid hr
    have HCH := Lib.hid hchs
    have hn6 := hchs.n6
    have HMEM := Lib.hid hmem
    have HGO := Lib.hid hgo
    rw [h0] at C1
    clear hans h0 hr hb0 hchs hmem hxs hgo hrr
    go_enter Tryz.func15, Tryz.ntmps15
    go_wp2_with (first
      | (go_at_call 18; refine C1.out.mono ?_; rintro e w1 ⟨rfl, hb1⟩; obtain ⟨hc1, hf1⟩ := bcell hb1; have hac1 : Below w.heap.size w w1 := HB.out.on hb1; have hz0 : w.heap.size < w1.heap.size := (by have := hb1.size; simp at this; omega))
      | (go_at_call 53; refine (channelsOf_any m q cap cs _ HCH.out (HR.out.below (Nat.le_refl _) hac1)).mono ?_; rintro e wB ⟨vB, rfl, hownB, hbB⟩; obtain ⟨hcB, hfB⟩ := bcell hbB; have hacB : Below w.heap.size w wB := hac1.on hbB; have hzB : w.heap.size < wB.heap.size := Nat.lt_of_lt_of_le hz0 hbB.size; obtain ⟨qB, cB, rfl, hrowB, _, _⟩ := rowV_of_owns hownB (by intro h; rw [List.length_eq_zero_iff] at h; rw [h]; rfl); clear hownB)
      | (go_at_call 57; refine (HGO.out _).mono ?_; rintro e wG ⟨vG, rfl, hownG, hbG⟩))
    have bE : ∀ (W : World) (o : Obj), Below W.heap.size W (W.alloc o) := fun W o => (Below.refl _ _).alloc (Nat.le_refl _) _
    have hchsC : ChsAt (wB.alloc (.cells #[.slice qB cs.length cB] 87)) wB.heap.size m cs := ⟨qB, cB, by simp, by simp, hrowB.below (Nat.le_refl _) (bE _ _)⟩
    have hchsD := hchsC.below (Nat.le_refl _) (bE _ (.cells #[.func (.func 69) #[] #[.pointer (some ⟨wB.heap.size, 0, none⟩)]] 104))
    have hfun : FunAt ((wB.alloc (.cells #[.slice qB cs.length cB] 87)).alloc (.cells #[.func (.func 69) #[] #[.pointer (some ⟨wB.heap.size, 0, none⟩)]] 104)) (wB.heap.size + 1) wB.heap.size := ⟨by simp, by simp⟩
    have hbC : Below wB.heap.size wB ((wB.alloc (.cells #[.slice qB cs.length cB] 87)).alloc (.cells #[.func (.func 69) #[] #[.pointer (some ⟨wB.heap.size, 0, none⟩)]] 104)) := (bE _ _).on (bE _ _)
    have hacD := hacB.on hbC
    have hzD : w.heap.size < ((wB.alloc (.cells #[.slice qB cs.length cB] 87)).alloc (.cells #[.func (.func 69) #[] #[.pointer (some ⟨wB.heap.size, 0, none⟩)]] 104)).heap.size := Nat.lt_of_lt_of_le hzB hbC.size
    obtain ⟨W4, hW4⟩ : ∃ W4, (wB.alloc (.cells #[.slice qB cs.length cB] 87)).alloc (.cells #[.func (.func 69) #[] #[.pointer (some ⟨wB.heap.size, 0, none⟩)]] 104) = W4 := ⟨_, rfl⟩
    rw [hW4] at hchsD hfun hacD hownG hbG hzD
    clear hW4 hbC hchsC hcB hfB hc1 hf1 hb1 hbB hrowB
    have hacG := hacD.on hbG
    have hchsG := hchsD.below (Nat.le_refl _) hbG
    have hfunG := hfun.below (Nat.le_refl _) hbG
    obtain ⟨qG, cG, rfl, hrowG, _, _⟩ := rowV_of_owns hownG (by intro h; rw [List.length_eq_zero_iff] at h; rw [h]; rfl)
    have hmin := minS_any wG.heap.size 70 #[.pointer (some ⟨wB.heap.size + 1, 0, none⟩)] (fun s => (leavingS cs s).length) ent_Narrow2 qG cG x xs wG (Nat.le_refl _) (fun W s t hs ht hb hB => Narrow2_any m s t _ _ cs W HCH.out (HMEM.out s hs) (HMEM.out t ht) (hchsG.below (Nat.le_refl _) hb) (hfunG.below (Nat.le_refl _) hb)) hrowG hgl
    rw [HRR.out] at hmin
    have HMIN := Lib.hid hmin
    obtain ⟨L2, hL2⟩ : ∃ L2, (x :: xs).length = L2 := ⟨_, rfl⟩
    rw [hL2] at HMIN ⊢
    clear hmin hL2 hrowG hownG hacD hchsD hfun
    have hr64 := pow_64 hn6 hmn
    go_upto_region 7 with (go_at_call 60; refine HMIN.out.mono ?_; rintro e wE ⟨rfl, hbE⟩)
    have hacE := hacG.on hbE
    have hchsE := hchsG.below (Nat.le_refl _) hbE
    have hfunE := hfunG.below (Nat.le_refl _) hbE
    obtain ⟨zE, cE⟩ := hfunE
    clear hfunG hchsG hbE HMIN
    go_region_held3 (fun W => W.cell? ⟨wB.heap.size + 1, 0, none⟩ = some (.func (.func 69) #[] #[.pointer (some ⟨wB.heap.size, 0, none⟩)])) (first | exact cE | exact d0 | exact e0 | go_keep)
      (first
      | (go_at_call 54; refine (list_any r _ hr64).mono ?_; rintro e w5 ⟨v5, rfl, hown5, hb5'⟩; have hb5 : Below wE.heap.size wE w5 := ((Below.refl _ _).drew).on hb5'; have d0 := (hb5.cell (p := ⟨wB.heap.size + 1, 0, none⟩) zE).trans cE; obtain ⟨q5, c5, rfl, hrow5, hq5, hqb5⟩ := rowV_of_owns hown5 (by intro h; rw [List.length_eq_zero_iff] at h; rw [h]; rfl))
      | (go_at_call 69; refine (Narrow1_any m r _ cs w5 HCH.out hmn (hchsE.below (Nat.le_refl _) hb5)).mono ?_; rintro e w6 ⟨rfl, hb6⟩; have e0 := (hb6.cell (p := ⟨wB.heap.size + 1, 0, none⟩) (Nat.lt_of_lt_of_le zE hb5.size)).trans d0)
      | fail)
    go_wp2
    go_ret3
    refine ⟨q5, c5, rfl, hrow5.below (Nat.le_refl _) hb6, hq5, fun a ha => ⟨Nat.le_trans hacE.size ?_, Nat.lt_of_lt_of_le (hqb5 a ha).2 hb6.size⟩, (hacE.on hb5).on hb6⟩
    have := (hqb5 a ha).1
    simpa using this
  · have hans : narrowOf n.toNat cs = ([], 0, errD n cs) := by
      unfold narrowOf
      rw [errD_nat, if_pos h0]
    rw [hans]
    have hb : (errD n cs != 0) = true := by simpa using h0
    clear hans h0 hr hb0
    go_enter Tryz.func15, Tryz.ntmps15
    go_wp2_with (go_at_call 18; refine C1.out.mono ?_; rintro e w1 ⟨rfl, hb1⟩)
    go_ret3
    exact ⟨none, 0, rfl, .inl rfl, fun _ => rfl, by simp, HB.out.on hb1⟩
end Go.Proofs.YtadamjleglckpaaGreat.drn

