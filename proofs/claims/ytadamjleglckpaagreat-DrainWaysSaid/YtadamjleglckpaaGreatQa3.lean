/- Package drain: one channel more, and a channel that costs more (P2.14), plainly. -/
import Derived.Test.YtadamjleglckpaaGreatQa2
import Derived.Laws.AppendOwnNone
import Derived.Test.YtadamjleglckpaaGreatQa1
import Derived.Deep.Onto
import Derived.Deep.RegionLaw
import Derived.Deep.MidRow
import Derived.OpenShut
import Derived.ProofKit
import Derived.OrdersHeld
import Derived.RegionTactic
import Derived.WalkKit

namespace Go.Proofs.YtadamjleglckpaaGreat.drn
/-- apart plans of a list are there in a longer one -/
theorem apartS_sub : ∀ (k : Nat) (ps qs : List (List Int)), ps.Sublist qs → (apartS k ps).isSome = true → (apartS k qs).isSome = true
  | k, ps, [], hs, h => by
    have e : ps = [] := List.sublist_nil.1 hs
    subst e
    rw [apartS_nil] at h
    cases h
  | 0, ps, q :: qs, _, _ => rfl
  | k + 1, ps, q :: qs, hs, h => by
    have ha := apartFrom_le q qs
    rw [apartS_cons]
    cases hm : apartS k (apartFrom q qs) with
    | some m => rfl
    | none =>
      show (apartS (k + 1) qs).isSome = true
      cases hs with
      | cons _ hs' => exact apartS_sub (k + 1) ps qs hs' h
      | @cons_cons ps' _ _ hs' =>
        rw [apartS_cons] at h
        cases hm2 : apartS k (apartFrom q ps') with
        | some m =>
          have h2 := apartS_sub k (apartFrom q ps') (apartFrom q qs) (List.Sublist.filter _ hs') (by rw [hm2]; rfl)
          rw [hm] at h2
          cases h2
        | none =>
          rw [hm2] at h
          exact apartS_sub (k + 1) ps' qs hs' h
termination_by _ _ qs => qs.length
theorem mostS_le {ps qs : List (List Int)} (hs : ps.Sublist qs) : mostS ps ≤ mostS qs := by
  obtain ⟨h1, _⟩ := mostS_spec qs
  obtain ⟨_, h2⟩ := mostS_spec ps
  rcases Nat.lt_or_ge (mostS qs) (mostS ps) with hlt | hge
  · have h3 := apartS_sub _ ps qs hs (h2 _ hlt)
    rw [h1] at h3
    cases h3
  · exact hge

/-- numbers of channels -/
def InR (cs : List Ch) (l : List Int) : Prop := ∀ x ∈ l, 0 ≤ x ∧ x < cs.length
theorem ext_in {cs : List Ch} : ∀ {l : List Int} {lo s : Nat}, Ext cs lo s l → InR cs l
  | [], _, _, _ => fun x hx => by cases hx
  | y :: r, lo, s, ⟨⟨h1, h2⟩, _, h3⟩ => fun x hx => by
    rcases List.mem_cons.1 hx with rfl | hx
    · exact ⟨by omega, h2⟩
    · exact ext_in h3 x hx
theorem getD_app (cs : List Ch) (c : Ch) {x : Int} (h0 : 0 ≤ x) (h : x < cs.length) : (cs ++ [c]).getD x.toNat (0, 0, 0) = cs.getD x.toNat (0, 0, 0) := by
  have hx : x.toNat < cs.length := by omega
  rw [List.getD_eq_getElem?_getD, List.getD_eq_getElem?_getD, List.getElem?_append_left hx]
theorem ext_app (cs : List Ch) (c : Ch) : ∀ (l : List Int) (lo s : Nat), (Ext (cs ++ [c]) lo s l ∧ ∀ x ∈ l, x < (cs.length : Int)) ↔ Ext cs lo s l
  | [], _, _ => by simp [Ext]
  | x :: r, lo, s => by
    have ih := ext_app cs c r (x.toNat + 1) (s ||| 1 <<< (frm cs x).toNat)
    constructor
    · rintro ⟨⟨⟨h1, h2⟩, h3, h4⟩, h5⟩
      have hx := h5 x (by simp)
      have e : frm (cs ++ [c]) x = frm cs x := by unfold frm; rw [getD_app cs c (by omega) hx]
      rw [e] at h3 h4
      exact ⟨⟨h1, hx⟩, h3, ih.1 ⟨h4, fun y hy => h5 y (by simp [hy])⟩⟩
    · rintro ⟨⟨h1, h2⟩, h3, h4⟩
      have e : frm (cs ++ [c]) x = frm cs x := by unfold frm; rw [getD_app cs c (by omega) h2]
      obtain ⟨k1, k2⟩ := ih.2 h4
      refine ⟨⟨⟨h1, by rw [List.length_append]; simp; omega⟩, by rw [e]; exact h3, by rw [e]; exact k1⟩, fun y hy => ?_⟩
      rcases List.mem_cons.1 hy with rfl | hy
      · exact h2
      · exact k2 y hy
theorem addS_app (cs : List Ch) (c : Ch) : ∀ (l : List Int) (s : Nat), InR cs l → addS (cs ++ [c]) s l = addS cs s l
  | [], _, _ => rfl
  | x :: r, s, h => by
    obtain ⟨h0, h1⟩ := h x (by simp)
    have e : frm (cs ++ [c]) x = frm cs x := by unfold frm; rw [getD_app cs c h0 h1]
    have ih := addS_app cs c r (s ||| 1 <<< (frm cs x).toNat) (fun y hy => h y (by simp [hy]))
    simp only [addS, List.foldl_cons, e] at *
    exact ih
theorem chosenS_app (cs : List Ch) (c : Ch) {l : List Int} (h : InR cs l) : chosenS (cs ++ [c]) l = chosenS cs l := by
  unfold chosenS
  exact List.map_congr_left fun x hx => getD_app cs c (h x hx).1 (h x hx).2
theorem costS_app (cs : List Ch) (c : Ch) : ∀ {l : List Int}, InR cs l → costS (cs ++ [c]) l = costS cs l
  | [], _ => rfl
  | x :: r, h => by
    obtain ⟨h0, h1⟩ := h x (by simp)
    rw [costS_cons, costS_cons, getD_app cs c h0 h1, costS_app cs c fun y hy => h y (by simp [hy])]
/-- the plans without the last channel -/
theorem plansS_app {n : Nat} {cs : List Ch} {c : Ch} (hn : 1 ≤ n) (hc : ∀ d ∈ cs ++ [c], ChOk n d) :
    plansS n cs = (plansS n (cs ++ [c])).filter fun l => l.all fun x => decide (x < (cs.length : Int)) := by
  have hc0 : ∀ d ∈ cs, ChOk n d := fun d hd => hc d (by simp [hd])
  refine (plans_only hn hc0 ((plansS_sorted n (cs ++ [c])).filter _) fun l => ?_).symm
  rw [List.mem_filter, mem_plansS hn hc]
  simp only [List.all_eq_true, decide_eq_true_eq]
  constructor
  · rintro ⟨⟨h1, h2, h3⟩, h4⟩
    have h5 := (ext_app cs c l 0 0).1 ⟨h1, h4⟩
    have hr := ext_in h5
    rw [addS_app cs c l 0 hr] at h2
    rw [chosenS_app cs c hr] at h3
    exact ⟨h5, h2, h3⟩
  · rintro ⟨h1, h2, h3⟩
    have hr := ext_in h1
    obtain ⟨h4, h5⟩ := (ext_app cs c l 0 0).2 h1
    exact ⟨⟨h4, by rw [addS_app cs c l 0 hr]; exact h2, by rw [chosenS_app cs c hr]; exact h3⟩, h5⟩
theorem count_more {n : Nat} {cs : List Ch} {c : Ch} (hn : 1 ≤ n) (hc : ∀ d ∈ cs ++ [c], ChOk n d) : (plansS n cs).length ≤ (plansS n (cs ++ [c])).length := by
  rw [plansS_app hn hc]
  exact List.length_filter_le _ _
theorem most_more {n : Nat} {cs : List Ch} {c : Ch} (hn : 1 ≤ n) (hc : ∀ d ∈ cs ++ [c], ChOk n d) : mostS (plansS n cs) ≤ mostS (plansS n (cs ++ [c])) := by
  rw [plansS_app hn hc]
  exact mostS_le List.filter_sublist

/-- what Least returns is the cost of a plan, and no plan costs less -/
theorem least_spec {n : Int} {cs : List Ch} (hc : ∀ c ∈ cs, ChOk n c) {ps : List (List Int)} (h : ps ≠ []) : ∃ p ∈ ps, leastS cs ps = costS cs p ∧ ∀ q ∈ ps, costS cs p ≤ costS cs q := by
  cases hm : firstMin (fun p => (costS cs p).toNat) ps with
  | none => exact absurd ((firstMin_none _ _).1 hm) h
  | some p =>
    obtain ⟨a, b, e, h1, h2⟩ := (firstMin_some _ _ _).1 hm
    refine ⟨p, by rw [e]; simp, by unfold leastS cheapS; rw [hm], fun q hq => ?_⟩
    have hp := costS_bd hc p
    have hq0 := costS_bd hc q
    rw [e] at hq
    rcases List.mem_append.1 hq with hq | hq
    · have := h1 q hq; omega
    · rcases List.mem_cons.1 hq with rfl | hq
      · omega
      · have := h2 q hq; omega
theorem least_more {n : Nat} {cs : List Ch} {c : Ch} (hn : 1 ≤ n) (hc : ∀ d ∈ cs ++ [c], ChOk n d) (h : plansS n cs ≠ []) :
    plansS n (cs ++ [c]) ≠ [] ∧ leastS (cs ++ [c]) (plansS n (cs ++ [c])) ≤ leastS cs (plansS n cs) := by
  have hc0 : ∀ d ∈ cs, ChOk n d := fun d hd => hc d (by simp [hd])
  obtain ⟨p, hp, e1, _⟩ := least_spec (n := n) hc0 h
  have hpl := (mem_plansS hn hc0 p).1 hp
  have hr := ext_in hpl.1
  have hp2 : p ∈ plansS n (cs ++ [c]) := by
    rw [plansS_app hn hc] at hp
    exact (List.mem_filter.1 hp).1
  have hne : plansS n (cs ++ [c]) ≠ [] := by intro e; rw [e] at hp2; cases hp2
  obtain ⟨p2, _, e2, h2⟩ := least_spec (n := n) hc hne
  have := h2 p hp2
  rw [costS_app cs c hr] at this
  exact ⟨hne, by rw [e1, e2]; exact this⟩

/-! a channel that costs more by 1 -/
def ends (c : Ch) : Int × Int := (c.1, c.2.1)
def dear (cs : List Ch) (p : Nat) : List Ch := cs.set p ((cs.getD p (0, 0, 0)).1, (cs.getD p (0, 0, 0)).2.1, (cs.getD p (0, 0, 0)).2.2 + 1)
theorem dear_at (cs : List Ch) (p : Nat) (hp : p < cs.length) (i : Nat) : (dear cs p).getD i (0, 0, 0) = if i = p then ((cs.getD p (0, 0, 0)).1, (cs.getD p (0, 0, 0)).2.1, (cs.getD p (0, 0, 0)).2.2 + 1) else cs.getD i (0, 0, 0) := by
  unfold dear
  rw [List.getD_eq_getElem?_getD, List.getElem?_set]
  by_cases h : p = i
  · subst h
    rw [if_pos rfl, if_pos rfl, if_pos hp]
    rfl
  · rw [if_neg h, if_neg fun e => h e.symm]
    rw [List.getD_eq_getElem?_getD (l := cs) (i := i)]
theorem dear_ends (cs : List Ch) (p : Nat) (hp : p < cs.length) (i : Nat) : ends ((dear cs p).getD i (0, 0, 0)) = ends (cs.getD i (0, 0, 0)) := by
  rw [dear_at cs p hp]
  by_cases h : i = p
  · rw [if_pos h, h]; rfl
  · rw [if_neg h]
theorem wetStep_alike (n : Nat) : ∀ (A B : List Ch) (d : Nat), A.map ends = B.map ends → wetStep n A d = wetStep n B d
  | [], [], _, _ => rfl
  | [], _ :: _, _, h => by cases h
  | _ :: _, [], _, h => by cases h
  | a :: A, b :: B, d, h => by
    simp only [List.map_cons, List.cons.injEq, ends, Prod.mk.injEq] at h
    obtain ⟨⟨h1, h2⟩, h3⟩ := h
    have ih := wetStep_alike n A B
    unfold wetStep at *
    rw [List.foldl_cons, List.foldl_cons, h1, h2]
    exact ih _ h3
theorem wetTo_alike (n : Nat) {A B : List Ch} (h : A.map ends = B.map ends) : ∀ k d, wetTo n A k d = wetTo n B k d
  | 0, _ => rfl
  | k + 1, d => by rw [wetTo, wetTo, wetStep_alike n A B d h]; exact wetTo_alike n h k _
theorem ext_alike {A B : List Ch} (hl : A.length = B.length) (h : ∀ i, ends (A.getD i (0, 0, 0)) = ends (B.getD i (0, 0, 0))) : ∀ (l : List Int) (lo s : Nat), Ext A lo s l → Ext B lo s l
  | [], _, _, _ => trivial
  | x :: r, lo, s, ⟨⟨h1, h2⟩, h3, h4⟩ => by
    have e : frm A x = frm B x := congrArg (fun z : Int × Int => z.1) (h x.toNat)
    rw [e] at h3 h4
    exact ⟨⟨h1, by omega⟩, h3, ext_alike hl h r _ _ h4⟩
theorem addS_alike {A B : List Ch} (h : ∀ i, ends (A.getD i (0, 0, 0)) = ends (B.getD i (0, 0, 0))) : ∀ (l : List Int) (s : Nat), addS A s l = addS B s l
  | [], _ => rfl
  | x :: r, s => by
    have e : frm A x = frm B x := congrArg (fun z : Int × Int => z.1) (h x.toNat)
    have ih := addS_alike h r
    simp only [addS, List.foldl_cons, e] at *
    exact ih _
theorem plan_alike {n : Nat} {A B : List Ch} (hl : A.length = B.length) (h : ∀ i, ends (A.getD i (0, 0, 0)) = ends (B.getD i (0, 0, 0))) {l : List Int} (hp : Plan n A l) : Plan n B l := by
  obtain ⟨h1, h2, h3⟩ := hp
  refine ⟨ext_alike hl h l 0 0 h1, by rw [← addS_alike h l 0]; exact h2, ?_⟩
  rw [← h3]
  refine (wetTo_alike n ?_ 7 0).symm
  unfold chosenS
  rw [List.map_map, List.map_map]
  exact List.map_congr_left fun x _ => h x.toNat
theorem dear_length (cs : List Ch) (p : Nat) : (dear cs p).length = cs.length := by unfold dear; simp
theorem dear_ok {n : Int} {cs : List Ch} (hc : ∀ c ∈ cs, ChOk n c) {p : Nat} (hp : p < cs.length) (h20 : (cs.getD p (0, 0, 0)).2.2 < 20) : ∀ c ∈ dear cs p, ChOk n c := by
  intro c hm
  obtain ⟨i, hi, rfl⟩ := List.getElem_of_mem hm
  rw [dear_length] at hi
  have e : (dear cs p)[i]'(by rw [dear_length]; exact hi) = (dear cs p).getD i (0, 0, 0) := by
    rw [List.getD_eq_getElem?_getD, List.getElem?_eq_getElem (by rw [dear_length]; exact hi)]; rfl
  rw [e, dear_at cs p hp]
  have hk : ChOk n (cs.getD p (0, 0, 0)) := hc _ (by rw [List.getD_eq_getElem?_getD, List.getElem?_eq_getElem hp]; exact List.getElem_mem hp)
  have hki : ChOk n (cs.getD i (0, 0, 0)) := hc _ (by rw [List.getD_eq_getElem?_getD, List.getElem?_eq_getElem hi]; exact List.getElem_mem hi)
  by_cases h : i = p
  · rw [if_pos h]
    obtain ⟨a, b, c, d, e⟩ := hk
    exact ⟨a, b, c, by show (0 : Int) ≤ _ + 1; omega, by show _ + (1 : Int) ≤ 20; omega⟩
  · rw [if_neg h]; exact hki
theorem plansS_dear {n : Nat} {cs : List Ch} (hn : 1 ≤ n) (hc : ∀ c ∈ cs, ChOk n c) {p : Nat} (hp : p < cs.length) (h20 : (cs.getD p (0, 0, 0)).2.2 < 20) : plansS n (dear cs p) = plansS n cs := by
  refine plans_only hn hc (plansS_sorted n _) fun l => ?_
  rw [mem_plansS hn (dear_ok hc hp h20)]
  exact ⟨plan_alike (dear_length cs p) (dear_ends cs p hp), plan_alike (dear_length cs p).symm fun i => (dear_ends cs p hp i).symm⟩
theorem cost_dear (cs : List Ch) {p : Nat} (hp : p < cs.length) : ∀ (l : List Int) (lo s : Nat), Ext cs lo s l →
    costS cs l ≤ costS (dear cs p) l ∧ costS (dear cs p) l ≤ costS cs l + 1 ∧ (p < lo → costS (dear cs p) l = costS cs l)
  | [], _, _, _ => ⟨Int.le_refl _, by show (0 : Int) ≤ 0 + 1; omega, fun _ => rfl⟩
  | x :: r, lo, s, ⟨⟨h1, h2⟩, _, h4⟩ => by
    obtain ⟨a, b, c⟩ := cost_dear cs hp r _ _ h4
    rw [costS_cons, costS_cons, dear_at cs p hp]
    by_cases h : x.toNat = p
    · rw [if_pos h]
      have := c (by omega)
      rw [h]
      refine ⟨?_, ?_, fun hlt => by omega⟩ <;> show _ ≤ _ <;> dsimp only <;> omega
    · rw [if_neg h]
      exact ⟨by omega, by omega, fun hlt => by have := c (by omega); omega⟩
theorem least_dear {n : Nat} {cs : List Ch} (hn : 1 ≤ n) (hc : ∀ c ∈ cs, ChOk n c) {p : Nat} (hp : p < cs.length) (h20 : (cs.getD p (0, 0, 0)).2.2 < 20) (h : plansS n cs ≠ []) :
    leastS cs (plansS n cs) ≤ leastS (dear cs p) (plansS n (dear cs p)) ∧ leastS (dear cs p) (plansS n (dear cs p)) ≤ leastS cs (plansS n cs) + 1 := by
  rw [plansS_dear hn hc hp h20]
  obtain ⟨p1, m1, e1, l1⟩ := least_spec (n := n) hc h
  obtain ⟨p2, m2, e2, l2⟩ := least_spec (n := n) (dear_ok hc hp h20) h
  have x1 := cost_dear cs hp p1 0 0 ((mem_plansS hn hc p1).1 m1).1
  have x2 := cost_dear cs hp p2 0 0 ((mem_plansS hn hc p2).1 m2).1
  have := l1 p2 m2
  have := l2 p1 m1
  rw [e1, e2]
  omega
end Go.Proofs.YtadamjleglckpaaGreat.drn

/- Package drain, the walks: hasChannel, chosen, costOf. -/
namespace Go.Proofs.YtadamjleglckpaaGreat.drn
open Go.RowKit
set_option linter.unusedSimpArgs false
set_option linter.unusedVariables false

theorem hasChannel_any (n : Int) (q : Option Addr) (m c : Nat) (i : Int) (w : World) :
    Calls Tryz.prog 88 #[hillV n q m c, .int .i64 i] w fun e w' => e = .returned (.bool (isGal m i)) ∧ Below w.heap.size w w' := by
  unfold hillV
  have hb0 : Below w.heap.size w (w.alloc (.cells #[.int .i64 n, .slice q m c] 24)) := (Below.refl _ _).alloc (Nat.le_refl _) _
  have HB := Lib.hid hb0
  clear hb0
  by_cases h : 0 ≤ i
  · have hi : decide (0 ≤ i) = true := by simpa using h
    go_enter Tryz.func88, Tryz.ntmps88
    go_wp2
    go_ret
    exact ⟨ret_bool (by simp [isGal, h]), HB.out⟩
  · have hi : ¬ 0 ≤ i := h
    go_enter Tryz.func88, Tryz.ntmps88
    go_wp2
    go_ret
    exact ⟨ret_bool (by simp [isGal]; omega), HB.out⟩

/-- append(list, c): channels -/
theorem app_ch (w : World) {ops : Array Oper} {rest : List Oper} {o : Oper} {a : Act} {Q : Exit → Act → World → Prop} (hgd : o.guard = none) (s x : Operand)
    (ho : o.op = .call { callee := .builtin .append, args := #[s, x], argTypes := #[87, 87] }) (base : Nat) (v : Value) (n : Nat) (xs : List Value) (f l : Value) (T : TypeId) (pl : Value) (hs : a.eval s = v)
    (hown : w.ownsRow base 128 3 v n xs) (B c : Nat) (hx : a.eval x = .slice (some ⟨B, 0, none⟩) 1 c)
    (hc1 : w.cell? ⟨B, 0, none⟩ = some f) (hc2 : w.cell? ⟨B, 1, none⟩ = some (.iface T pl)) (hc3 : w.cell? ⟨B, 2, none⟩ = some l) (hf1 : f.oneCell' = true) (hl1 : l.oneCell' = true) (hl : n ≤ 1000000) (hbase : base ≤ w.heap.size)
    (h : ∀ v' w', w'.ownsRow base 128 3 v' (n + 1) (xs ++ [f, .iface T pl, l]) → w.grownBy w' v.ownBlock → (v'.ownBlock = v.ownBlock ∨ v'.ownBlock = some w.heap.size) → wpList Tryz.prog ops Q rest (a.put o.dst v') w') :
    wpList Tryz.prog ops Q (o :: rest) a w := by
  refine app_one w hgd s x 87 ho base 128 _ 3 32 Tryz.underlying87 infoC rfl (by decide) (by decide) v n xs hs hown B c hx [f, .iface T pl, l] rfl ?_ ?_ hl hbase h
  · intro j u hj
    match j, hj with
    | 0, hj => simp at hj; subst hj; exact hc1
    | 1, hj => simp at hj; subst hj; exact hc2
    | 2, hj => simp at hj; subst hj; exact hc3
  · intro u hu
    simp at hu
    rcases hu with rfl | rfl | rfl
    · exact hf1
    · rfl
    · exact hl1

theorem flatC_map_take_succ (n : Nat) (cs : List Ch) (l : List Int) (k : Nat) (h : k < l.length) : flatC n (chosenS cs (l.take (k + 1))) = flatC n (chosenS cs (l.take k)) ++ [.int .i64 (cs.getD (l.getD k 0).toNat (0, 0, 0)).1, plV n (cs.getD (l.getD k 0).toNat (0, 0, 0)).2.1, .int .i64 (cs.getD (l.getD k 0).toNat (0, 0, 0)).2.2] := by
  unfold chosenS
  rw [map_take_succ _ l k 0 h, flatC_snoc]

set_option maxRecDepth 100000 in
set_option maxHeartbeats 1000000 in
theorem chosen_any (n : Nat) (q : Option Addr) (cap : Nat) (cs : List Ch) (q2 : Option Addr) (c2 : Nat) (l : List Int) (w : World) (hr : RowV w q (flatC n cs)) (hr2 : RowV w q2 (flatI l)) (hin : InR cs l) (hl : l.length ≤ 1000) (hm : cs.length ≤ 14) :
    Calls Tryz.prog 91 #[.slice q cs.length cap, .slice q2 l.length c2] w (RetV w 128 3 (chosenS cs l).length (flatC n (chosenS cs l))) := by
  obtain ⟨i0, hi, hz0, hz1, hz2⟩ := info_parts infoC
  have HI := Lib.hid hi
  have HZ0 := Lib.hid hz0
  have HZ1 := Lib.hid hz1
  have HZ2 := Lib.hid hz2
  have HIN := Lib.hid hin
  have hlen : (chosenS cs l).length = l.length := by simp [chosenS]
  have HLEN := Lib.hid hlen
  clear hi hz0 hz1 hz2 hin hlen
  go_enter Tryz.func91, Tryz.ntmps91
  go_wp2_with (at_make; refine wpList_make_own _ rfl (.const (.int .i64 0)) (.tmp 9) 87 rfl w.heap.size 128 i0 _ 3 Tryz.underlying87 HI.out HZ0.out HZ1.out .i64 .i64 l.length l.length rfl rfl rfl (by rw [HZ2.out]; omega) (by unfold maxLen; omega) (Nat.le_refl _) ?_; intro w1 hown1 hgrow1; have hb1 : Below w.heap.size w w1 := (Below.refl _ _).grown hgrow1 (Nat.le_refl _) (by simp))
  clear hgrow1
  go_loopw [5, 13] (fun v i wr => ∃ k : Nat, k ≤ l.length ∧ i = .int .i64 k ∧ wr.ownsRow w.heap.size 128 3 v k (flatC n (chosenS cs (l.take k))) ∧ Below w.heap.size w wr) (fun _ i _ => l.length - (intOf i).toNat)
  case atStart => exact ⟨0, Nat.zero_le _, rfl, by simpa [chosenS, flatC] using hown1, hb1⟩
  case round =>
    obtain ⟨k, hk, rfl, hown, hbel⟩ := hrel
    by_cases hlt : k < l.length
    · obtain ⟨b, off, rfl, hb, h1⟩ := rowI_at hr2 hlt (Nat.le_refl _) hbel
      have hx := HIN.out _ (getD_mem l k 0 hlt)
      have hst := flatC_map_take_succ n cs l k hlt
      generalize l.getD k 0 = x at h1 hx hst
      obtain ⟨x, rfl⟩ : ∃ m : Nat, x = m := ⟨x.toNat, by omega⟩
      have hxl : x < cs.length := by omega
      obtain ⟨b3, off3, rfl, hb3, g1, g2, g3⟩ := rowC_at hr hxl (Nat.le_refl _) hbel
      rw [Int.toNat_natCast] at hst
      generalize cs.getD x (0, 0, 0) = c at g1 g2 g3 hst
      obtain ⟨T, hT⟩ : ∃ T, plV n c.2.1 = .iface T (.int .i64 c.2.1) := ⟨_, rfl⟩
      rw [hT] at g2 hst
      have hxi : (x : Int) < (cs.length : Int) := by omega
      have HST := Lib.hid hst
      have HO := Lib.hid hown
      clear hst hown hT hx
      go_wp2_with (at_builtin; refine app_ch _ rfl (.tmp 17) (.tmp 22) rfl w.heap.size _ k _ (.int .i64 c.1) (.int .i64 c.2.2) T (.int .i64 c.2.1) rfl (HO.out.alloc _) wr.heap.size 1 rfl (by simp) (by simp) (by simp) rfl rfl (by omega) (by have := hbel.size; simp; omega) ?_; intro v2 w2 hown2 hgr2 hbk2; have hb2 : Below w.heap.size w w2 := hbel.trans (((Below.refl _ _).alloc hbel.size _).trans (grown_below (HO.out.alloc _) (by have := hbel.size; simp; omega) hgr2)))
      go_roundw
      case rel => exact ⟨k + 1, hlt, by go_num, by rw [HST.out]; exact hown2, hb2⟩
      case measure => simp [intOf]; omega
    · obtain rfl : k = l.length := by omega
      rw [List.take_length] at hown
      go_wp2
      go_ret
      exact ⟨_, rfl, by rw [HLEN.out]; exact hown, hbel⟩

theorem cost_take_succ (cs : List Ch) (l : List Int) (k : Nat) (h : k < l.length) : costS cs (l.take (k + 1)) = costS cs (l.take k) + (cs.getD (l.getD k 0).toNat (0, 0, 0)).2.2 := by
  unfold costS
  rw [foldl_take _ _ l k 0 h]
set_option maxRecDepth 100000 in
theorem costOf_any (n : Nat) (q : Option Addr) (cap : Nat) (cs : List Ch) (q2 : Option Addr) (c2 : Nat) (l : List Int) (w : World) (hc : Chs n cs) (hr : RowV w q (flatT cs)) (hr2 : RowV w q2 (flatI l)) (hin : InR cs l) (hl : l.length ≤ 1000) :
    Calls Tryz.prog 87 #[hillV n q cs.length cap, .slice q2 l.length c2] w fun e w' => e = .returned (.int .i64 (costS cs l)) ∧ Below w.heap.size w w' := by
  unfold hillV
  have hb0 : Below w.heap.size w (w.alloc (.cells #[.int .i64 n, .slice q cs.length cap] 24)) := (Below.refl _ _).alloc (Nat.le_refl _) _
  have hr0 := hr.below (Nat.le_refl _) hb0
  have hr20 := hr2.below (Nat.le_refl _) hb0
  have hbd : ∀ k, 0 ≤ costS cs (l.take k) ∧ costS cs (l.take k) ≤ 20000 := fun k => by
    have h := costS_bd hc.ok (l.take k)
    have : (l.take k).length ≤ 1000 := by rw [List.length_take]; omega
    omega
  have HBD := Lib.hid hbd
  have HIN := Lib.hid hin
  have HB := Lib.hid hb0
  have HC := Lib.hid hc
  have hcm := hc.many
  clear hbd hin hb0 hc
  go_enter Tryz.func87, Tryz.ntmps87
  go_wp2
  have hb0 := HB.out
  obtain ⟨W0, hW0⟩ : ∃ W0, w.alloc (.cells #[.int .i64 n, .slice q cs.length cap] 24) = W0 := ⟨_, rfl⟩
  have hz0 : w.heap.size < W0.heap.size := by rw [← hW0]; simp
  have hc0 : W0.cell? ⟨w.heap.size, 1, none⟩ = some (.slice q cs.length cap) := by rw [← hW0]; simp
  rw [hW0] at hr0 hr20 hb0 ⊢
  clear hW0 HB
  go_loop [5, 10] (fun v i => ∃ k : Nat, k ≤ l.length ∧ i = .int .i64 k ∧ v = .int .i64 (costS cs (l.take k))) (fun _ i => l.length - (intOf i).toNat)
  case atStart => exact ⟨0, Nat.zero_le _, rfl, rfl⟩
  case round =>
    obtain ⟨k, hk, rfl, rfl⟩ := hrel
    by_cases hlt : k < l.length
    · obtain ⟨b, off, rfl, hb, h1⟩ := rowI_at hr20 hlt (Nat.le_refl _) (Below.refl _ _)
      have hx := HIN.out _ (getD_mem l k 0 hlt)
      have hst := cost_take_succ cs l k hlt
      generalize l.getD k 0 = x at h1 hx hst
      obtain ⟨x, rfl⟩ : ∃ m : Nat, x = m := ⟨x.toNat, by omega⟩
      have hxl : x < cs.length := by omega
      obtain ⟨b3, off3, rfl, hb3, g1, g2, g3⟩ := rowT_at hr0 hxl (Nat.le_refl _) (Below.refl _ _)
      rw [Int.toNat_natCast] at hst
      have hk1 := HBD.out k
      have hk2 := HBD.out (k + 1)
      generalize cs.getD x (0, 0, 0) = c at g1 g2 g3 hst
      generalize costS cs (l.take k) = s at hst hk1 ⊢
      have hw : IntKind.i64.wrap (s + c.2.2) = s + c.2.2 := IntWalk.i64_in _ ⟨by omega, by omega⟩
      have hxi : (x : Int) < (cs.length : Int) := by omega
      have HST := Lib.hid hst
      clear hst hx hk1 hk2
      go_wp2
      go_round
      case rel => exact ⟨k + 1, hlt, by go_num, by rw [HST.out]⟩
      case measure => simp [intOf]; omega
    · obtain rfl : k = l.length := by omega
      rw [List.take_length]
      go_wp2
      go_ret
      exact ⟨rfl, hb0⟩
end Go.Proofs.YtadamjleglckpaaGreat.drn

/- Package drain, the walks: Valid, Cost. -/
namespace Go.Proofs.YtadamjleglckpaaGreat.drn
open Go.RowKit
set_option linter.unusedSimpArgs false
set_option linter.unusedVariables false

theorem planErr_at (cs : List Ch) (l : List Int) (k : Nat) (hk : k < l.length) (b : Option Int) (s : Nat) : planErr cs b s (l.drop k) =
    if !isGal cs.length (l.getD k 0) then (2, s) else if notUp b (l.getD k 0) then (7, s)
    else if inS s (cs.getD (l.getD k 0).toNat (0, 0, 0)).1 then (6, s) else planErr cs (some (l.getD k 0)) (s ||| 1 <<< (cs.getD (l.getD k 0).toNat (0, 0, 0)).1.toNat) (l.drop (k + 1)) := by
  rw [List.drop_eq_getElem_cons hk, ← getD_eq l k 0 hk]
  rfl
theorem planErr_ok (cs : List Ch) : ∀ (l : List Int) (b : Option Int) (s : Nat), (planErr cs b s l).1 = 0 → InR cs l ∧ l.Pairwise (· < ·) ∧ ∀ y, b = some y → ∀ x ∈ l, y < x
  | [], _, _, _ => ⟨(fun x hx => nomatch hx), List.Pairwise.nil, (fun y _ x hx => nomatch hx)⟩
  | i :: r, b, s, h => by
    rw [planErr] at h
    by_cases hg : isGal cs.length i = true
    · rw [hg] at h
      simp only [Bool.not_true, Bool.false_eq_true, if_false] at h
      by_cases hu : notUp b i = true
      · rw [if_pos hu] at h; simp at h
      · rw [if_neg hu] at h
        by_cases ht : inS s (cs.getD i.toNat (0, 0, 0)).1 = true
        · rw [if_pos ht] at h; simp at h
        · rw [if_neg ht] at h
          obtain ⟨i1, i2, i3⟩ := planErr_ok cs r _ _ h
          have hgl := (isGal_iff _ i).1 hg
          refine ⟨fun x hx => ?_, List.pairwise_cons.2 ⟨fun x hx => i3 i rfl x hx, i2⟩, fun y hy x hx => ?_⟩
          · rcases List.mem_cons.1 hx with rfl | hx
            · exact hgl
            · exact i1 x hx
          · subst hy
            have hlt : y < i := by simpa [notUp] using hu
            rcases List.mem_cons.1 hx with rfl | hx
            · exact hlt
            · have := i3 i rfl x hx; omega
    · have hg' : isGal cs.length i = false := by simpa using hg
      rw [hg'] at h
      simp at h
theorem chs_chosen {n : Nat} {cs : List Ch} (hc : Chs n cs) {l : List Int} (h : InR cs l) (hs : l.Pairwise (· < ·)) : Chs n (chosenS cs l) ∧ l.length ≤ 14 := by
  have hl : l.length ≤ 14 := Nat.le_trans (sorted_le h hs) hc.many
  refine ⟨⟨hc.n1, hc.n6, by simpa [chosenS] using hl, fun c hm => ?_⟩, hl⟩
  obtain ⟨i, hi, rfl⟩ := List.mem_map.1 hm
  exact getD_ok hc.ok (by have := h i hi; omega)
theorem inS_nat (s x : Nat) : inS s (x : Int) = s.testBit x := by simp [inS]

/-- where Valid's loop stands -/
structure AtV (n : Nat) (cs : List Ch) (l : List Int) (k s : Nat) : Prop where
  le : k ≤ l.length
  lt : s < 2 ^ n
  rest : planErr cs (before l k) s (l.drop k) = planErr cs none 0 l

set_option maxRecDepth 100000 in
set_option maxHeartbeats 2000000 in
theorem Valid_any (n : Int) (q : Option Addr) (cap : Nat) (cs : List Ch) (q2 : Option Addr) (c2 : Nat) (l : List Int) (w : World) (hr : RowV w q (flatT cs)) (hcap : cs.length ≤ cap) (hr2 : RowV w q2 (flatI l)) (hl : l.length ≤ 1000000) :
    Calls Tryz.prog 35 #[hillV n q cs.length cap, .slice q2 l.length c2] w fun e w' => e = .returned (.int .i64 (validOf n.toNat cs l)) ∧ Below w.heap.size w w' := by
  have hb0 : Below w.heap.size w (w.alloc (.cells #[.int .i64 n, .slice q cs.length cap] 24)) := (Below.refl _ _).alloc (Nat.le_refl _) _
  have c1 := Check_any n q cap cs _ (hr.below (Nat.le_refl _) hb0) hcap
  unfold hillV at c1 ⊢
  have C1 := Lib.hid c1
  have HB := Lib.hid hb0
  clear c1
  by_cases h0 : errD n cs = 0
  · obtain ⟨m, rfl, hchs⟩ := chs_of h0
    have hans : validOf ((m : Int).toNat) cs l = if (planErr cs none 0 l).1 ≠ 0 then (planErr cs none 0 l).1 else if (planErr cs none 0 l).2 ≠ allS m then 21 else if wetS m (chosenS cs l) ≠ allS m then 13 else 0 := by
      unfold validOf
      rw [Int.toNat_natCast, if_neg (by rw [h0]; simp)]
    obtain ⟨ans, hA⟩ : ∃ ans, validOf ((m : Int).toNat) cs l = ans := ⟨_, rfl⟩
    rw [hA] at hans ⊢
    have HANS := Lib.hid hans
    have HR := Lib.hid hr
    have HR2 := Lib.hid hr2
    have HCH := Lib.hid hchs
    have hn6 := hchs.n6
    have hcm := hchs.many
    rw [h0] at C1
    clear hans h0 hr hr2 hb0 hchs hA
    go_enter Tryz.func35, Tryz.ntmps35
    go_wp2_with (first
      | (go_at_call 18; refine C1.out.mono ?_; rintro e w1 ⟨rfl, hb1⟩; obtain ⟨hc1, hf1⟩ := bcell hb1; have hac1 : Below w.heap.size w w1 := HB.out.on hb1; have hz0 : w.heap.size < w1.heap.size := (by have := hb1.size; simp at this; omega))
      | (go_at_call 53; refine (channelsOf_any m q cap cs _ HCH.out (HR.out.below (Nat.le_refl _) hac1)).mono ?_; rintro e wB ⟨vB, rfl, hownB, hbB⟩; have hacB : Below w.heap.size w wB := hac1.on hbB; have hzB : w.heap.size < wB.heap.size := Nat.lt_of_lt_of_le hz0 hbB.size; obtain ⟨qB, cB, rfl, hrowB, _, _⟩ := rowV_of_owns hownB (by intro h; rw [List.length_eq_zero_iff] at h; rw [h]; rfl)))
    obtain ⟨d0, d1⟩ : w1.cell? ⟨w.heap.size, 0, none⟩ = some (.int .i64 m) ∧ w1.cell? ⟨w.heap.size, 1, none⟩ = some (.slice q cs.length cap) := ⟨by rw [hc1 _ _ (by simp)]; simp, by rw [hc1 _ _ (by simp)]; simp⟩
    have e0 := (hbB.cell (p := ⟨w.heap.size, 0, none⟩) hz0).trans d0
    have e1 := (hbB.cell (p := ⟨w.heap.size, 1, none⟩) hz0).trans d1
    have hr2B := HR2.out.below (Nat.le_refl _) hacB
    clear hc1 hf1 hb1 hac1 d0 d1 hownB hbB hz0
    go_loopw [7, 20] (fun v i wr => ∃ k s : Nat, i = .int .i64 k ∧ v = .int .u64 s ∧ AtV m cs l k s ∧ Below wB.heap.size wB wr) (fun _ i _ => l.length - (intOf i).toNat)
    case atStart => exact ⟨0, 0, rfl, rfl, ⟨Nat.zero_le _, Nat.two_pow_pos m, rfl⟩, Below.refl _ _⟩
    case round =>
      obtain ⟨k, s, rfl, rfl, hat, hbel⟩ := hrel
      obtain ⟨hk, hs, hrest⟩ := hat
      have hzr := hbel.size
      have f0 := (hbel.cell (p := ⟨w.heap.size, 0, none⟩) hzB).trans e0
      have f1 := (hbel.cell (p := ⟨w.heap.size, 1, none⟩) hzB).trans e1
      have hz2 : w.heap.size < wr.heap.size := Nat.lt_of_lt_of_le hzB hzr
      by_cases hlt : k < l.length
      · obtain ⟨b, off, rfl, hb, h1⟩ := rowI_at hr2B hlt (Nat.le_refl _) hbel
        have hst := planErr_at cs l k hlt (before l k) s
        rw [hrest] at hst
        obtain ⟨gg, hgg⟩ : ∃ gg, isGal cs.length (l.getD k 0) = gg := ⟨_, rfl⟩
        rw [hgg] at hst
        obtain ⟨x, hx⟩ : ∃ x, l.getD k 0 = x := ⟨_, rfl⟩
        rw [hx] at hst h1 hgg
        have hgal : ∀ W, Calls Tryz.prog 88 #[.agg #[.int .i64 m, .slice q cs.length cap], .int .i64 x] W fun e w' => e = .returned (.bool gg) ∧ Below W.heap.size W w' := fun W => by rw [← hgg]; exact hasChannel_any m q cs.length cap x W
        have hs64 := pow_64 hn6 hs
        have HGAL := Lib.hid hgal
        have HS := Lib.hid hs
        have HX := Lib.hid hx
        have HRE := Lib.hid hrest
        have hbz : b < wr.heap.size := Nat.lt_of_lt_of_le hb hzr
        have hk1 : (k : Int) < (l.length : Int) := by omega
        clear hgal hs hx hrest e0 e1
        cases gg with
        | false =>
          have HST := Lib.hid hst
          have HGG := Lib.hid hgg
          clear hst hgg
          go_wp2_with (go_at_call 88; refine (HGAL.out _).mono ?_; rintro e w3 ⟨rfl, hb3⟩)
          go_ret
          exact ⟨ret_int (by have h := HANS.out; rw [HST.out] at h; exact h.symm), hacB.on (hbel.on hb3)⟩
        | true =>
          have hx2 := (isGal_iff _ _).1 hgg
          obtain ⟨x, rfl⟩ : ∃ i : Nat, x = i := ⟨x.toNat, by omega⟩
          have hxl : x < cs.length := by omega
          obtain ⟨b3, off3, rfl, hb3z, g1, g2, g3⟩ := rowC_at hrowB hxl (Nat.le_refl _) hbel
          have hok := getD_ok HCH.out.ok hxl
          simp only [Bool.not_true, Bool.false_eq_true, if_false, Int.toNat_natCast] at hst
          generalize cs.getD x (0, 0, 0) = c at g1 g2 g3 hok hst
          obtain ⟨y, c2', c3'⟩ := c
          obtain ⟨⟨y0, y1⟩, _⟩ := hok
          dsimp only at *
          obtain ⟨y, rfl⟩ : ∃ i : Nat, y = i := ⟨y.toNat, by omega⟩
          have hy6 : y < 6 := by omega
          have ho := oneS_lt hy6
          have hor := or_u s (oneS y) (by omega) (by omega)
          have hsy : s ||| oneS y < 2 ^ m := Nat.or_lt_two_pow HS.out (by unfold oneS; rw [Nat.one_shiftLeft]; exact Nat.pow_lt_pow_right (by decide) (by omega))
          rw [inS_nat, Int.toNat_natCast, show s ||| 1 <<< y = s ||| oneS y from rfl] at hst
          have hxi : (x : Int) < (cs.length : Int) := by omega
          have HOR := Lib.hid hor
          have HSY := Lib.hid hsy
          clear hgg hx2 hor hsy g2 g3
          have hb3w : b3 < wr.heap.size := Nat.lt_of_lt_of_le hb3z hzr
          have hsl := HS.out
          cases k with
          | zero =>
            have h1' : wr.cell? ⟨b, off, none⟩ = some (.int .i64 x) := by simpa using h1
            rw [show notUp (before l 0) (x : Int) = false from rfl] at hst
            simp only [Bool.false_eq_true, if_false] at hst
            clear hsl
            cases hbit : s.testBit y with
            | true =>
              rw [hbit] at hst
              simp only [if_true] at hst
              have HST := Lib.hid hst
              have HBIT := Lib.hid hbit
              clear hst hbit
              go_wp2_with (first
                | (go_at_call 88; refine (HGAL.out _).mono ?_; rintro e w3 ⟨rfl, hb3⟩; obtain ⟨hc3, hf3⟩ := bcell hb3; have hzb3 : b < w3.heap.size := Nat.lt_of_lt_of_le hbz hb3.size; have hzc3 : b3 < w3.heap.size := Nat.lt_of_lt_of_le hb3w hb3.size)
                | (go_at_call 89; refine (in_any y s _ hy6 hs64).mono ?_; rintro e w4 ⟨hin, rfl⟩; rw [HBIT.out] at hin; subst hin))
              go_ret
              exact ⟨ret_int (by have h := HANS.out; rw [HST.out] at h; exact h.symm), hacB.on (hbel.on hb3)⟩
            | false =>
              rw [hbit] at hst
              simp only [Bool.false_eq_true, if_false] at hst
              have HST := Lib.hid hst
              have HBIT := Lib.hid hbit
              have hor := HOR.out
              clear hst hbit
              go_wp2_with (first
                | (go_at_call 88; refine (HGAL.out _).mono ?_; rintro e w3 ⟨rfl, hb3⟩; obtain ⟨hc3, hf3⟩ := bcell hb3; have hzb3 : b < w3.heap.size := Nat.lt_of_lt_of_le hbz hb3.size; have hzc3 : b3 < w3.heap.size := Nat.lt_of_lt_of_le hb3w hb3.size)
                | (go_at_call 89; refine (in_any y s _ hy6 hs64).mono ?_; rintro e w4 ⟨hin, rfl⟩; rw [HBIT.out] at hin; subst hin)
                | (go_at_call 90; refine (alone_any y _ hy6).mono ?_; rintro e w5 ⟨rfl, rfl⟩))
              refine ⟨⟨1, s ||| oneS y, by go_num, rfl, ⟨hlt, HSY.out, ?_⟩, hbel.on hb3⟩, ?_⟩
              · show planErr cs (some (l.getD (0) 0)) _ _ = _
                rw [HX.out]
                exact HST.out.symm
              · simp [intOf]; omega
          | succ j =>
            obtain ⟨b', off', e', hb', h2⟩ := rowI_at hr2B (show j < l.length by omega) (Nat.le_refl _) hbel
            injection e' with e'
            injection e' with e1 e2
            subst e1 e2
            rw [show before l (j + 1) = some (l.getD j 0) from rfl] at hst
            generalize hp : l.getD j 0 = p at h2 hst
            have ej : IntKind.i64.wrap (((j + 1 : Nat) : Int) - 1) = (j : Int) := by rw [show ((j + 1 : Nat) : Int) - 1 = (j : Int) by omega]; exact IntWalk.i64_in _ ⟨by omega, by omega⟩
            have hjl : (j : Int) < (l.length : Int) := by omega
            have hj0 : (0 : Int) < ((j + 1 : Nat) : Int) := by omega
            clear hp hsl
            by_cases hup : (x : Int) ≤ p
            · have hupb : notUp (some p) (x : Int) = true := by simpa [notUp] using hup
              rw [hupb] at hst
              simp only [if_true] at hst
              have HST := Lib.hid hst
              clear hst hupb
              go_wp2_with (go_at_call 88; refine (HGAL.out _).mono ?_; rintro e w3 ⟨rfl, hb3⟩; obtain ⟨hc3, hf3⟩ := bcell hb3; have hzb3 : b < w3.heap.size := Nat.lt_of_lt_of_le hbz hb3.size)
              go_ret
              exact ⟨ret_int (by have h := HANS.out; rw [HST.out] at h; exact h.symm), hacB.on (hbel.on hb3)⟩
            · have hupb : notUp (some p) (x : Int) = false := by simpa [notUp] using hup
              rw [hupb] at hst
              simp only [Bool.false_eq_true, if_false] at hst
              clear hupb
              cases hbit : s.testBit y with
              | true =>
                rw [hbit] at hst
                simp only [if_true] at hst
                have HST := Lib.hid hst
                have HBIT := Lib.hid hbit
                clear hst hbit
                go_wp2_with (first
                  | (go_at_call 88; refine (HGAL.out _).mono ?_; rintro e w3 ⟨rfl, hb3⟩; obtain ⟨hc3, hf3⟩ := bcell hb3; have hzb3 : b < w3.heap.size := Nat.lt_of_lt_of_le hbz hb3.size; have hzc3 : b3 < w3.heap.size := Nat.lt_of_lt_of_le hb3w hb3.size)
                  | (go_at_call 89; refine (in_any y s _ hy6 hs64).mono ?_; rintro e w4 ⟨hin, rfl⟩; rw [HBIT.out] at hin; subst hin))
                go_ret
                exact ⟨ret_int (by have h := HANS.out; rw [HST.out] at h; exact h.symm), hacB.on (hbel.on hb3)⟩
              | false =>
                rw [hbit] at hst
                simp only [Bool.false_eq_true, if_false] at hst
                have HST := Lib.hid hst
                have HBIT := Lib.hid hbit
                have hor := HOR.out
                clear hst hbit
                go_wp2_with (first
                  | (go_at_call 88; refine (HGAL.out _).mono ?_; rintro e w3 ⟨rfl, hb3⟩; obtain ⟨hc3, hf3⟩ := bcell hb3; have hzb3 : b < w3.heap.size := Nat.lt_of_lt_of_le hbz hb3.size; have hzc3 : b3 < w3.heap.size := Nat.lt_of_lt_of_le hb3w hb3.size)
                  | (go_at_call 89; refine (in_any y s _ hy6 hs64).mono ?_; rintro e w4 ⟨hin, rfl⟩; rw [HBIT.out] at hin; subst hin)
                  | (go_at_call 90; refine (alone_any y _ hy6).mono ?_; rintro e w5 ⟨rfl, rfl⟩))
                refine ⟨⟨j + 2, s ||| oneS y, by go_num, rfl, ⟨hlt, HSY.out, ?_⟩, hbel.on hb3⟩, ?_⟩
                · show planErr cs (some (l.getD (j + 1) 0)) _ _ = _
                  rw [HX.out]
                  exact HST.out.symm
                · simp [intOf]; omega
      · obtain rfl : k = l.length := by omega
        rw [List.drop_length] at hrest
        have hres : planErr cs none 0 l = (0, s) := by rw [← hrest]; cases before l l.length <;> rfl
        obtain ⟨hin, hsrt, _⟩ := planErr_ok cs l none 0 (by rw [hres])
        obtain ⟨hch2, hl14⟩ := chs_chosen HCH.out hin hsrt
        have ha := HANS.out
        rw [hres] at ha
        have hal := fun W => allOf_any m q cs.length cap W hn6
        have HAL := Lib.hid hal
        have HIN := Lib.hid hin
        have HC2 := Lib.hid hch2
        have HHA := Lib.hid ha
        have HS := Lib.hid hs
        clear hrest hres hsrt hin hch2 hal ha e0 e1 hs hk hlt
        go_wp2_with (first
          | (go_at_call 51; refine (HAL.out _).mono ?_; rintro e w3 ⟨rfl, hb3⟩; have hac3 : Below wB.heap.size wB w3 := hbel.on hb3)
          | (go_at_call 91; refine (chosen_any m qB cB cs q2 c2 l w3 (hrowB.below (Nat.le_refl _) hac3) (hr2B.below (Nat.le_refl _) hac3) HIN.out (by omega) hcm).mono ?_; rintro e w4 ⟨v4, rfl, hown4, hb4⟩; obtain ⟨q4, c4, rfl, hrow4, _, _⟩ := rowV_of_owns hown4 (by intro h; rw [List.length_eq_zero_iff] at h; rw [h]; rfl); have hac4 : Below wB.heap.size wB w4 := hac3.on hb4)
          | (go_at_call 52; refine (drained_any m q4 c4 _ w4 HC2.out hrow4).mono ?_; rintro e w5 ⟨rfl, hb5⟩))
        · have hne : ((s : Int) != (allS m : Nat)) = true := by assumption
          have hne2 : s ≠ allS m := by intro h; rw [h] at hne; simp at hne
          go_ret
          exact ⟨ret_int (by have h := HHA.out; rw [if_neg (by simp), if_pos hne2] at h; exact h.symm), hacB.on hac3⟩
        · have heq : ((s : Int) != (allS m : Nat)) = false := by assumption
          have heq2 : s = allS m := by have : (s : Int) = (allS m : Nat) := by simpa using heq
                                       omega
          have hne : (((wetS m (chosenS cs l) : Nat) : Int) != (s : Int)) = true := by assumption
          have hne2 : wetS m (chosenS cs l) ≠ allS m := by intro h; rw [h, heq2] at hne; simp at hne
          go_ret
          exact ⟨ret_int (by have h := HHA.out; rw [if_neg (by simp), if_neg (fun h => h heq2), if_pos hne2] at h; exact h.symm), (hacB.on hac4).on hb5⟩
        · have heq : ((s : Int) != (allS m : Nat)) = false := by assumption
          have heq2 : s = allS m := by have : (s : Int) = (allS m : Nat) := by simpa using heq
                                       omega
          have hne : (((wetS m (chosenS cs l) : Nat) : Int) != (s : Int)) = false := by assumption
          have hne2 : wetS m (chosenS cs l) = allS m := by have : ((wetS m (chosenS cs l) : Nat) : Int) = (s : Int) := by simpa using hne
                                                           omega
          go_ret
          exact ⟨ret_int (by have h := HHA.out; rw [if_neg (by simp), if_neg (fun h => h heq2), if_neg (fun h => h hne2)] at h; exact h.symm), (hacB.on hac4).on hb5⟩
  · have hans : validOf n.toNat cs l = errD n cs := by
      unfold validOf
      rw [errD_nat, if_pos h0]
    rw [hans]
    have hb : (errD n cs != 0) = true := by simpa using h0
    clear hans h0 hr hb0
    go_enter Tryz.func35, Tryz.ntmps35
    go_wp2_with (go_at_call 18; refine C1.out.mono ?_; rintro e w1 ⟨rfl, hb1⟩)
    go_ret
    exact ⟨rfl, HB.out.on hb1⟩
end Go.Proofs.YtadamjleglckpaaGreat.drn

/- Lists of lists of ints in memory; clones; appends of whole lists. -/
namespace Go.Proofs.YtadamjleglckpaaGreat.drn
open Go.RowKit
set_option linter.unusedSimpArgs false
set_option linter.unusedVariables false

/-- pairs of values and lists -/
def InL (R : Value → List Int → Prop) : List Value → List (List Int) → Prop
  | [], [] => True
  | v :: vs, l :: ls => R v l ∧ InL R vs ls
  | _, _ => False
theorem InL.len {R : Value → List Int → Prop} : ∀ {vs : List Value} {ls : List (List Int)}, InL R vs ls → vs.length = ls.length
  | [], [], _ => rfl
  | _ :: _, _ :: _, h => by simp [InL.len h.2]
  | [], _ :: _, h => h.elim
  | _ :: _, [], h => h.elim
theorem InL.mono {R S : Value → List Int → Prop} (hRS : ∀ v l, R v l → S v l) : ∀ {vs : List Value} {ls : List (List Int)}, InL R vs ls → InL S vs ls
  | [], [], _ => trivial
  | _ :: _, _ :: _, h => ⟨hRS _ _ h.1, InL.mono hRS h.2⟩
  | [], _ :: _, h => h.elim
  | _ :: _, [], h => h.elim
theorem InL.app {R : Value → List Int → Prop} : ∀ {vs us : List Value} {ls ks : List (List Int)}, InL R vs ls → InL R us ks → InL R (vs ++ us) (ls ++ ks)
  | [], _, [], _, _, h => h
  | _ :: _, _, _ :: _, _, h, k => ⟨h.1, InL.app h.2 k⟩
  | [], _, _ :: _, _, h, _ => h.elim
  | _ :: _, _, [], _, h, _ => h.elim
theorem InL.get {R : Value → List Int → Prop} : ∀ {vs : List Value} {ls : List (List Int)} (i : Nat), InL R vs ls → i < ls.length → ∃ v, vs[i]? = some v ∧ R v (ls.getD i [])
  | v :: vs, l :: ls, 0, h, _ => ⟨v, rfl, h.1⟩
  | v :: vs, l :: ls, i + 1, h, hi => by
    obtain ⟨u, h1, h2⟩ := InL.get i h.2 (by simpa using hi)
    exact ⟨u, by simpa using h1, by simpa using h2⟩
  | [], [], i, _, hi => by simp at hi
  | [], _ :: _, _, h, _ => h.elim
  | _ :: _, [], _, h, _ => h.elim
theorem InL.all {R : Value → List Int → Prop} {Q : Value → Prop} (hRQ : ∀ v l, R v l → Q v) : ∀ {vs : List Value} {ls : List (List Int)}, InL R vs ls → ∀ v ∈ vs, Q v
  | [], [], _ => by simp
  | v :: vs, l :: ls, h => fun u hu => by
    rcases List.mem_cons.1 hu with rfl | hu
    · exact hRQ _ _ h.1
    · exact InL.all hRQ h.2 u hu
  | [], _ :: _, h => h.elim
  | _ :: _, [], h => h.elim

theorem inL_mem {R S : Value → List Int → Prop} : ∀ {vs : List Value} {ls : List (List Int)}, (∀ v, ∀ l ∈ ls, R v l → S v l) → InL R vs ls → InL S vs ls
  | [], [], _, _ => trivial
  | _ :: _, _ :: _, h, k => ⟨h _ _ (by simp) k.1, inL_mem (fun v l hl => h v l (by simp [hl])) k.2⟩
  | [], _ :: _, _, h => h.elim
  | _ :: _, [], _, h => h.elim
/-- a list of ints in memory, in new memory or where it was handed in -/
def NewI (w : World) (lo : Nat) (qb : Option Addr) (v : Value) (l : List Int) : Prop := ∃ q c, v = .slice q l.length c ∧ RowV w q (flatI l) ∧ (q = none → c = 0) ∧ (q = qb ∨ ∀ a, q = some a → lo ≤ a.block)
/-- what plansFrom answers -/
def ManyL (w : World) (qb : Option Addr) (ls : List (List Int)) (e : Ending) (w' : World) : Prop :=
  ∃ q c vs, e = .returned (.slice q vs.length c) ∧ (vs = [] → q = none ∧ c = 0) ∧ RowV w' q vs ∧ (∀ a, q = some a → w.heap.size ≤ a.block ∧ a.block < w'.heap.size) ∧ InL (NewI w' w.heap.size qb) vs ls ∧ Below w.heap.size w w' ∧ vs.length ≤ c
/-- a list of ints that lies beside the row of the call -/
def BesideI (w : World) (lo : Nat) (ob : Option Nat) (v : Value) (l : List Int) : Prop := ∃ q c, v = .slice q l.length c ∧ RowV w q (flatI l) ∧ (q = none → c = 0) ∧ ∀ a, q = some a → lo ≤ a.block ∧ some a.block ≠ ob ∧ a.block < w.heap.size
theorem rowI_lt {w : World} {q : Option Addr} {l : List Int} (h : RowV w q (flatI l)) (hne : l ≠ []) : ∀ a, q = some a → a.block < w.heap.size := by
  intro a ha
  rcases h with h | ⟨b, off, e, hz, _⟩
  · exact absurd (by simpa [flatI] using h) hne
  · rw [e] at ha; injection ha with ha; subst ha; exact hz

theorem own_cap {w : World} {base : Nat} {e : TypeId} {size n c : Nat} {q : Option Addr} {xs : List Value} (h : w.ownsRow base e size (.slice q n c) n xs) : n ≤ c := by
  obtain ⟨_, ⟨hv, hn⟩ | ⟨g, cap, cur, hv, _, _, hnc, _⟩⟩ := h
  · omega
  · cases hv; exact hnc
theorem infoL : (Tryz.prog.info? 25).map (fun i => (i.zero, i.size, i.bytes)) = some (some (.slice none 0 0), 1, 24) := by kernel_rfl
/-- at a step of a region that draws: appending a whole list of lists to a list of the call's own -/
theorem step_lists (w : World) {ops : Array Oper} {o : Oper} {a : Act} {K : Act → World → Prop} {Q : Exit → Act → World → Prop} {E : Prop} (hgd : o.guard = none) (s x : Operand)
    (ho : o.op = .call { callee := .builtin .append, args := #[s, x], argTypes := #[58, 58] }) (base : Nat) (v : Value) (vs vr : List Value) (hs : a.eval s = v)
    (hown : w.ownsRow base 25 1 v vs.length vs) (q : Option Addr) (c : Nat) (hx : a.eval x = .slice q vr.length c) (hq : vr = [] → q = none ∧ c = 0) (hr : RowV w q vr) (h1c : ∀ u ∈ vr, u.oneCell' = true)
    (hl : vs.length + vr.length ≤ 1000000) (hbase : base ≤ w.heap.size)
    (h : ∀ v' w', w'.ownsRow base 25 1 v' (vs ++ vr).length (vs ++ vr) → w.grownBy w' v.ownBlock → (v'.ownBlock = v.ownBlock ∨ v'.ownBlock = some w.heap.size) → (vr = [] → v' = v) → K (a.put o.dst v') w') :
    if Region.wanted o (yielded ops a.tmps) = true then Oper.wp Tryz.prog o a w K Q else E := by
  obtain ⟨i0, hi, hz0, hz1, hz2⟩ := info_parts infoL
  have hw : Region.wanted o (yielded ops a.tmps) = true := by simp [Region.wanted, hgd]
  rw [if_pos hw]
  by_cases h0 : vr = []
  · subst h0
    obtain ⟨rfl, rfl⟩ := hq rfl
    have hx0 : a.eval x = .slice none 0 0 := hx
    have hrun := run_append_owned_none (P := Tryz.prog) (w := w) base 58 o.type 25 i0 1 Tryz.underlying58 hi v vs.length vs hown
    unfold Oper.wp
    simp [execOp, ho, resolve, invoke, builtin, hs, hx0, hrun, Result.andThen]
    refine h v w ?_ ⟨rfl, rfl, rfl, Nat.le_refl _, fun _ _ _ => rfl⟩ (.inl rfl) (fun _ => rfl)
    rw [List.append_nil]
    exact hown
  · rcases hr with hr | ⟨b, off, rfl, hz, hc⟩
    · exact absurd hr h0
    · have hpos : 0 < vr.length := List.length_pos_iff.2 h0
      refine wp_append_lies w s x 58 ho base 25 i0 _ 1 24 Tryz.underlying58 hi hz0 hz1 hz2 rfl (by decide) v vs.length vs hs hown ⟨b, off, none⟩ vr.length c vr hx (by omega) ?_ h1c hpos (by unfold maxLen; omega) (by omega) hbase _ rfl ?_
      · intro j u hj
        rw [addr_add_off]
        exact hc j u hj
      · intro g cap w' g1 g2 g3 g4
        refine h _ w' ?_ g2 ?_ (fun e => absurd e h0)
        · rw [List.length_append]; exact g1
        · rcases g3 with g3 | g3
          · exact .inl (by rw [g3]; rfl)
          · exact .inr (by rw [g3]; rfl)
theorem last_at {b b0 : List Int} {x : Int} (h : b = b0 ++ [x]) : 0 < b.length ∧ b.getD (b.length - 1) 0 = x := by
  subst h
  refine ⟨by simp, ?_⟩
  rw [getD_eq _ _ 0 (by simp)]
  simp

/-- what the loop has found -/
def OutL (w wr : World) (v : Value) (ls : List (List Int)) : Prop :=
  ∃ vs, wr.ownsRow w.heap.size 25 1 v vs.length vs ∧ (vs = [] → v = .slice none 0 0) ∧ InL (BesideI wr w.heap.size v.ownBlock) vs ls ∧ Below w.heap.size w wr
/-- behind one round -/
theorem OutL.step {w wr w2 w3 w4 : World} {v v' : Value} {ls ks : List (List Int)} {vs vr : List Value} {b : List Int} {q2 : Option Addr}
    (ho : wr.ownsRow w.heap.size 25 1 v vs.length vs) (hn : vs = [] → v = .slice none 0 0) (hin : InL (BesideI wr w.heap.size v.ownBlock) vs ls) (hb : Below w.heap.size w wr)
    (hb2 : Below wr.heap.size wr w2) (hq2 : ∀ a, q2 = some a → wr.heap.size ≤ a.block ∧ a.block < w2.heap.size) (hne : b ≠ [])
    (hr : InL (NewI w3 w2.heap.size q2) vr ks) (hlen : ∀ k ∈ ks, k ≠ []) (hb3 : Below w2.heap.size w2 w3)
    (ho4 : w4.ownsRow w.heap.size 25 1 v' (vs ++ vr).length (vs ++ vr)) (hg : w3.grownBy w4 v.ownBlock) (hbl : v'.ownBlock = v.ownBlock ∨ v'.ownBlock = some w3.heap.size) (hsame : vr = [] → v' = v) :
    OutL w w4 v' (ls ++ ks) := by
  have s1 := hb.size
  have s2 := hb2.size
  have s3 := hb3.size
  have hb13 : Below wr.heap.size wr w3 := hb2.trans (hb3.mono s2)
  have ho3 := owns_below ho (Nat.le_refl _) hb13
  have hlt := ho.lt
  have s4 : w3.heap.size ≤ w4.heap.size := hg.size
  have hkeep : ∀ (a : Option Addr) (l : List Int), RowV w3 a (flatI l) → (∀ x, a = some x → some x.block ≠ v.ownBlock ∧ x.block < w3.heap.size) → RowV w4 a (flatI l) := by
    intro a l h hx
    rcases h with h | ⟨bb, off, e, hz, hc⟩
    · exact .inl h
    · refine .inr ⟨bb, off, e, Nat.lt_of_lt_of_le hz s4, fun i u hi => ?_⟩
      rw [hg.cell_far ⟨bb, off + i, none⟩ hz (hx _ e).1]
      exact hc i u hi
  have hnew : ∀ x : Nat, x < w3.heap.size → some x ≠ v.ownBlock → some x ≠ v'.ownBlock := by
    intro x hx hne' e
    rcases hbl with h | h
    · exact hne' (by rw [e, h])
    · rw [h] at e; injection e with e; omega
  refine ⟨vs ++ vr, ho4, ?_, ?_, ?_⟩
  · intro e
    obtain ⟨e1, e2⟩ := List.append_eq_nil_iff.1 e
    rw [hsame e2, hn e1]
  · refine InL.app (InL.mono ?_ hin) (inL_mem ?_ hr)
    · rintro u l ⟨q, c, rfl, h1, hn, h2⟩
      have h3 := h1.below (Nat.le_refl _) hb13
      refine ⟨q, c, rfl, hkeep q l h3 (fun x hx => ⟨(h2 x hx).2.1, by have := (h2 x hx).2.2; omega⟩), hn, fun x hx => ?_⟩
      obtain ⟨k1, k2, k3⟩ := h2 x hx
      exact ⟨k1, hnew _ (by omega) k2, by omega⟩
    · rintro u l hl ⟨q, c, rfl, h1, hn, h2⟩
      have hz : ∀ x, q = some x → x.block < w3.heap.size := rowI_lt h1 (hlen l hl)
      have hwr : ∀ x, q = some x → wr.heap.size ≤ x.block := by
        intro x hx
        rcases h2 with h2 | h2
        · rw [h2] at hx; exact (hq2 x hx).1
        · have := h2 x hx; omega
      have hno : ∀ x, q = some x → some x.block ≠ v.ownBlock := by
        intro x hx e
        have := (hlt _ e.symm).2
        have := hwr x hx
        omega
      refine ⟨q, c, rfl, hkeep q l h1 (fun x hx => ⟨hno x hx, hz x hx⟩), hn, fun x hx => ⟨by have := hwr x hx; omega, hnew _ (hz x hx) (hno x hx), by have := hz x hx; omega⟩⟩
  · exact (hb.trans (hb13.mono s1)).trans (grown_below ho3 (by omega) hg)

end Go.Proofs.YtadamjleglckpaaGreat.drn

/- A kit for the law's walks: variables of two cells, numbers of eight bits in a block, what stays in memory; appends of channels. -/
namespace Go.Proofs.YtadamjleglckpaaGreat.drn
open Go.RowKit
set_option linter.unusedSimpArgs false
set_option linter.unusedVariables false
def Cell2 (W : World) (B : Nat) (a b : Value) : Prop :=
  B < W.heap.size ∧ W.cell? ⟨B, 0, none⟩ = some a ∧ W.cell? ⟨B, 1, none⟩ = some b ∧ W.frozen? ⟨B, 0, none⟩ = false ∧ W.frozen? ⟨B, 1, none⟩ = false
theorem Cell2.below {W W' : World} {B : Nat} {a b : Value} (h : Cell2 W B a b) {N : Nat} (hN : B < N) (hb : Below N W W') : Cell2 W' B a b := by
  obtain ⟨h0, h1, h2, h4, h5⟩ := h
  exact ⟨Nat.lt_of_lt_of_le h0 hb.size, (hb.cell (p := ⟨B, 0, none⟩) hN).trans h1, (hb.cell (p := ⟨B, 1, none⟩) hN).trans h2, (hb.frozen (p := ⟨B, 0, none⟩) hN).trans h4, (hb.frozen (p := ⟨B, 1, none⟩) hN).trans h5⟩
theorem Cell2.set {W : World} {B : Nat} {a b : Value} (h : Cell2 W B a b) (x y : Value) : Cell2 ((W.setCell ⟨B, 0, none⟩ x).setCell ⟨B, 1, none⟩ y) B x y := by
  obtain ⟨h0, h1, h2, h4, h5⟩ := h
  have n01 : (⟨B, 0, none⟩ : Addr) ≠ ⟨B, 1, none⟩ := by simp
  refine ⟨by simp only [World.size_setCell]; exact h0, ?_, ?_, ?_, ?_⟩
  · rw [World.cell?_setCell_other (h := n01.symm), World.cell?_setCell_same (h := h1)]
  · rw [World.cell?_setCell_same (u := b)]
    rw [World.cell?_setCell_other (h := n01), h2]
  · simpa using h4
  · simpa using h5

theorem ownsRow_setCell {w : World} {base : Nat} {e : TypeId} {size : Nat} {v : Value} {n : Nat} {xs : List Value} (h : w.ownsRow base e size v n xs) (a : Addr) (u : Value) (ha : a.block < base) : (w.setCell a u).ownsRow base e size v n xs := by
  obtain ⟨h1, h2 | ⟨g, cap, cur, rfl, hb, hg, r⟩⟩ := h
  · exact ⟨h1, .inl h2⟩
  · exact ⟨h1, .inr ⟨g, cap, cur, rfl, hb, by rw [heap_setCell_other w a g u (by omega)]; exact hg, r⟩⟩
theorem grown_al {w w' : World} {o : Obj} {base : Nat} {e : TypeId} {size : Nat} {v : Value} {n : Nat} {xs : List Value} (hown : w.ownsRow base e size v n xs) (hb : base ≤ w.heap.size) (hg : (w.alloc o).grownBy w' v.ownBlock) : Below base w w' :=
  ((Below.refl base w).alloc hb o).trans (grown_below (hown.alloc o) (by simp; omega) hg)

theorem Cell2.set1 {W : World} {B : Nat} {a b : Value} (h : Cell2 W B a b) (y : Value) : Cell2 (W.setCell ⟨B, 1, none⟩ y) B a y := by
  obtain ⟨h0, h1, h2, h4, h5⟩ := h
  have n01 : (⟨B, 0, none⟩ : Addr) ≠ ⟨B, 1, none⟩ := by simp
  refine ⟨by simp only [World.size_setCell]; exact h0, ?_, ?_, ?_, ?_⟩
  · rw [World.cell?_setCell_other (h := n01.symm), h1]
  · rw [World.cell?_setCell_same (h := h2)]
  · simpa using h4
  · simpa using h5
theorem Cell2.far {W : World} {B C i : Nat} {a b : Value} (h : Cell2 W B a b) (hne : C ≠ B) (y : Value) : Cell2 (W.setCell ⟨C, i, none⟩ y) B a b := by
  obtain ⟨h0, h1, h2, h4, h5⟩ := h
  have hn : ∀ o, (⟨C, i, none⟩ : Addr) ≠ ⟨B, o, none⟩ := by intro o e; injection e with e; exact hne e
  refine ⟨by simp only [World.size_setCell]; exact h0, ?_, ?_, ?_, ?_⟩
  · rw [World.cell?_setCell_other (h := hn 0), h1]
  · rw [World.cell?_setCell_other (h := hn 1), h2]
  · simpa using h4
  · simpa using h5

theorem grown_drew {w w' : World} {o : Obj} {base : Nat} {e : TypeId} {size : Nat} {v : Value} {n : Nat} {xs : List Value} (hown : w.ownsRow base e size v n xs) (hb : base ≤ w.heap.size) (hg : (w.alloc o).drew.grownBy w' v.ownBlock) : Below base w w' :=
  ((Below.refl base w).alloc hb o).drew.trans (grown_below ((hown.alloc o).drew) (by simp; omega) hg)


theorem infoT : (Tryz.prog.info? 51).map (fun i => (i.zero, i.size, i.bytes)) = some (some (.agg #[.int .i64 0, .int .i64 0, .int .i64 0]), 3, 24) := by kernel_rfl
theorem flatT_snoc (gs : List Ch) (g : Ch) : flatT (gs ++ [g]) = flatT gs ++ [.int .i64 g.1, .int .i64 g.2.1, .int .i64 g.2.2] := by simp [flatT]
theorem own_cap3 {w : World} {base : Nat} {e : TypeId} {size n : Nat} {v : Value} {xs : List Value} (h : w.ownsRow base e size v n xs) : ∀ q c, v = .slice q n c → n ≤ c := by
  rintro q c rfl
  exact own_cap h
theorem below_two (W : World) (o o' : Obj) : Below W.heap.size W ((W.alloc o).alloc o') := ((Below.refl _ _).alloc (Nat.le_refl _) _).alloc (by simp) _
/-- a hill whose channels lie in new memory -/
def HillPost (w : World) (n : Int) (gs : List Ch) (e : Ending) (w' : World) : Prop :=
  ∃ q c, e = .returned (hillV n q gs.length c) ∧ RowV w' q (flatT gs) ∧ (∀ a, q = some a → w.heap.size ≤ a.block ∧ a.block < w'.heap.size) ∧ gs.length ≤ c ∧ Below w.heap.size w w'
theorem step_tri (w : World) {ops : Array Oper} {o : Oper} {a : Act} {K : Act → World → Prop} {Q : Exit → Act → World → Prop} {E : Prop} (hgd : o.guard = none) (s x : Operand)
    (ho : o.op = .call { callee := .builtin .append, args := #[s, x], argTypes := #[22, 22] }) (base : Nat) (v : Value) (gs : List Ch) (g : Ch) (hs : a.eval s = v)
    (hown : w.ownsRow base 51 3 v gs.length (flatT gs)) (B c : Nat) (hx : a.eval x = .slice (some ⟨B, 0, none⟩) 1 c)
    (hc1 : w.cell? ⟨B, 0, none⟩ = some (.int .i64 g.1)) (hc2 : w.cell? ⟨B, 1, none⟩ = some (.int .i64 g.2.1)) (hc3 : w.cell? ⟨B, 2, none⟩ = some (.int .i64 g.2.2))
    (hl : gs.length ≤ 1000000) (hbase : base ≤ w.heap.size)
    (h : ∀ g' cap' w', w'.ownsRow base 51 3 (.slice (some ⟨g', 0, none⟩) (gs.length + 1) cap') (gs ++ [g]).length (flatT (gs ++ [g])) → w.grownBy w' v.ownBlock → K (a.put o.dst (.slice (some ⟨g', 0, none⟩) (gs.length + 1) cap')) w') :
    if Region.wanted o (yielded ops a.tmps) = true then Oper.wp Tryz.prog o a w K Q else E := by
  refine step_one w hgd s x 22 ho base 51 _ 3 24 Tryz.underlying22 infoT rfl (by decide) (by decide) v gs.length (flatT gs) hs hown B c hx [.int .i64 g.1, .int .i64 g.2.1, .int .i64 g.2.2] rfl ?_ ?_ hl hbase ?_
  · intro j u hj
    match j, hj with
    | 0, hj => simp at hj; subst hj; exact hc1
    | 1, hj => simp at hj; subst hj; exact hc2
    | 2, hj => simp at hj; subst hj; exact hc3
  · intro u hu
    simp at hu
    rcases hu with rfl | rfl | rfl <;> rfl
  · intro g' cap' w' h1 h2 h3 h4
    refine h g' cap' w' ?_ h2
    rw [flatT_snoc, List.length_append]
    exact h1
/-! numbers of eight bits -/
def flat8 (xs : List Int) : List Value := xs.map (Value.int .u8)
theorem flat8_length (xs : List Int) : (flat8 xs).length = xs.length := by simp [flat8]
theorem flat8_get (xs : List Int) (i : Nat) (h : i < xs.length) : (flat8 xs)[i]? = some (.int .u8 (xs.getD i 0)) := by
  rw [getD_eq xs i 0 h]; simp [flat8, List.getElem?_eq_getElem h]
/-- numbers of eight bits in a block -/
def BoxAt (W : World) (B : Nat) (xs : List Int) : Prop := B < W.heap.size ∧ W.rangeAt B 0 (flat8 xs)
theorem BoxAt.keep {W W' : World} {B : Nat} {xs : List Int} (h : BoxAt W B xs) {N : Nat} (hN : B < N) (hb : Below N W W') : BoxAt W' B xs :=
  ⟨Nat.lt_of_lt_of_le h.1 hb.size, fun j v hv => (hb.cell (p := ⟨B, 0 + j, none⟩) hN).trans (h.2 j v hv)⟩
theorem BoxAt.cell {W : World} {B : Nat} {xs : List Int} (h : BoxAt W B xs) (k : Nat) (hk : k < xs.length) : W.cell? ⟨B, k, none⟩ = some (.int .u8 (xs.getD k 0)) := by
  have := h.2 k _ (flat8_get xs k hk)
  simpa using this
theorem BoxAt.far {W : World} {B C : Nat} {xs : List Int} (h : BoxAt W B xs) (hne : C ≠ B) (i : Nat) (y : Value) : BoxAt (W.setCell ⟨C, i, none⟩ y) B xs :=
  ⟨by simp only [World.size_setCell]; exact h.1, fun j v hv => by
    have hn : (⟨C, i, none⟩ : Addr) ≠ ⟨B, 0 + j, none⟩ := by intro e; injection e with e; exact hne e
    rw [World.cell?_setCell_other (h := hn)]; exact h.2 j v hv⟩
theorem BoxAt.new (w : World) (xs : List Int) (t : TypeId) : BoxAt (w.alloc (.cells (flat8 xs).toArray t)) w.heap.size xs := by
  refine ⟨by simp, fun j v hv => ?_⟩
  have h1 : (w.alloc (.cells (flat8 xs).toArray t)).heap[w.heap.size]? = some (.cells (flat8 xs).toArray t (0, 0)) := by
    show (w.heap.push _)[w.heap.size]? = some _
    simp
  unfold World.cell?
  rw [h1]
  simpa using hv
theorem RowV.front {w : World} {q : Option Addr} {xs ys : List Value} (h : RowV w q (xs ++ ys)) : RowV w q xs := by
  cases xs with
  | nil => exact .inl rfl
  | cons x xs =>
    rcases h with h | ⟨b, off, e, hz, hc⟩
    · cases h
    · exact .inr ⟨b, off, e, hz, fun i v hi => hc i v (by rw [List.getElem?_append_left (List.getElem?_eq_some_iff.1 hi).1]; exact hi)⟩
theorem rowT_take {w : World} {q : Option Addr} {cs : List Ch} (h : RowV w q (flatT cs)) (k : Nat) : RowV w q (flatT (cs.take k)) := by
  have e : flatT cs = flatT (cs.take k) ++ flatT (cs.drop k) := by
    unfold flatT
    rw [← List.flatMap_append, List.take_append_drop]
  rw [e] at h
  exact h.front
theorem rowV_set {w : World} {b off i : Nat} {vs : List Value} (h : RowV w (some ⟨b, off, none⟩) vs) (hi : i < vs.length) (u : Value) : RowV (w.setCell ⟨b, off + i, none⟩ u) (some ⟨b, off, none⟩) (vs.set i u) := by
  obtain ⟨b', off', e, hz, hc⟩ := h.here hi
  simp only [Option.some.injEq, Addr.mk.injEq] at e
  obtain ⟨rfl, rfl, _⟩ := e
  refine .inr ⟨b, off, rfl, by simp only [World.size_setCell]; exact hz, fun j v hj => ?_⟩
  by_cases e : j = i
  · subst e
    rw [List.getElem?_set_self hi] at hj
    rw [World.cell?_setCell_same (h := hc j vs[j] (List.getElem?_eq_getElem hi))]
    exact hj
  · rw [List.getElem?_set_ne (Ne.symm e)] at hj
    have hn : (⟨b, off + i, none⟩ : Addr) ≠ ⟨b, off + j, none⟩ := by intro e2; simp only [Addr.mk.injEq] at e2; omega
    rw [World.cell?_setCell_other (h := hn)]
    exact hc j v hj
theorem flatT_set : ∀ (cs : List Ch) (i : Nat) (v : Int), i < cs.length → (flatT cs).set (i * 3 + 2) (.int .i64 v) = flatT (cs.set i ((cs.getD i (0, 0, 0)).1, (cs.getD i (0, 0, 0)).2.1, v))
  | [], i, v, h => by simp at h
  | c :: cs, 0, v, _ => by simp [flatT]
  | c :: cs, i + 1, v, h => by
    have ih := flatT_set cs i v (by simpa using h)
    have e : ∀ (c : Ch) (cs : List Ch), flatT (c :: cs) = .int .i64 c.1 :: .int .i64 c.2.1 :: .int .i64 c.2.2 :: flatT cs := fun c cs => by simp [flatT]
    rw [e, show (i + 1) * 3 + 2 = (i * 3 + 2) + 1 + 1 + 1 by omega, List.set_cons_succ, List.set_cons_succ, List.set_cons_succ, ih, List.set_cons_succ, e]
    simp
theorem far2 {W : World} {B C o : Nat} {x y : Value} {a : Option Value} (h : W.cell? ⟨B, o, none⟩ = a) (hne : B < C) : ((W.setCell ⟨C, 0, none⟩ x).setCell ⟨C, 1, none⟩ y).cell? ⟨B, o, none⟩ = a := by
  have hn : ∀ i, (⟨C, i, none⟩ : Addr) ≠ ⟨B, o, none⟩ := by intro i e; injection e with e; omega
  rw [World.cell?_setCell_other (h := hn 1), World.cell?_setCell_other (h := hn 0), h]
theorem rowV_far {w : World} {b off : Nat} {vs : List Value} (h : RowV w (some ⟨b, off, none⟩) vs) {C i : Nat} (hne : C ≠ b) (u : Value) : RowV (w.setCell ⟨C, i, none⟩ u) (some ⟨b, off, none⟩) vs := by
  rcases h with h | ⟨b', off', e, hz, hc⟩
  · exact .inl h
  · simp only [Option.some.injEq, Addr.mk.injEq] at e
    obtain ⟨rfl, rfl, _⟩ := e
    refine .inr ⟨b, off, rfl, by simp only [World.size_setCell]; exact hz, fun j v hj => ?_⟩
    have hn : (⟨C, i, none⟩ : Addr) ≠ ⟨b, off + j, none⟩ := by intro e2; injection e2 with e2; exact hne e2
    rw [World.cell?_setCell_other (h := hn)]
    exact hc j v hj
/-- what stays, whatever is made above -/
structure Bd (W0 W : World) (Q : World → Prop) : Prop where
  bel : Below W0.heap.size W0 W
  all : ∀ W', Below W.heap.size W W' → Q W'
theorem Bd.go {W0 W W' : World} {Q : World → Prop} (h : Bd W0 W Q) (hb : Below W.heap.size W W') : Bd W0 W' Q := ⟨h.bel.on hb, fun V hV => h.all V (hb.on hV)⟩
theorem Bd.at {W0 W : World} {Q : World → Prop} (h : Bd W0 W Q) : Q W := h.all W (Below.refl _ _)
theorem Bd.and {W0 W : World} {Q R : World → Prop} (h : Bd W0 W Q) (r : ∀ W', Below W.heap.size W W' → R W') : Bd W0 W fun W => R W ∧ Q W := ⟨h.bel, fun V hV => ⟨r V hV, h.all V hV⟩⟩
theorem Bd.row {W0 W : World} {Q : World → Prop} (h : Bd W0 W Q) {q : Option Addr} {vs : List Value} (hr : RowV W q vs) : Bd W0 W fun W => RowV W q vs ∧ Q W := h.and fun _ hb => hr.below (Nat.le_refl _) hb
theorem Bd.var {W0 W : World} {Q : World → Prop} (h : Bd W0 W Q) {B : Nat} {a b : Value} (hr : Cell2 W B a b) : Bd W0 W fun W => Cell2 W B a b ∧ Q W := h.and fun _ hb => hr.below hr.1 hb
theorem Bd.box {W0 W : World} {Q : World → Prop} (h : Bd W0 W Q) {B : Nat} {xs : List Int} (hr : BoxAt W B xs) : Bd W0 W fun W => BoxAt W B xs ∧ Q W := h.and fun _ hb => hr.keep hr.1 hb
theorem Bd.mono {W0 W : World} {Q R : World → Prop} (h : Bd W0 W Q) (hi : ∀ W, Q W → R W) : Bd W0 W R := ⟨h.bel, fun V hV => hi V (h.all V hV)⟩
theorem Cell2.new (w : World) (B : Nat) (hB : w.heap.size = B) (a b : Value) (t : TypeId) : Cell2 (w.alloc (.cells #[a, b] t)) B a b := by
  subst hB
  exact ⟨by simp, by simp, by simp, by simp, by simp⟩
end Go.Proofs.YtadamjleglckpaaGreat.drn

/- Arguments made of small whole numbers alone: what a row's step asks of them. -/
namespace Go.Proofs.YtadamjleglckpaaGreat.drn
open Go.RowKit Go.ChangeShapes Go.WideShapes
set_option linter.unusedSimpArgs false
set_option linter.unusedVariables false
set_option linter.unusedSectionVars false

/-! arguments made of whole numbers alone -/
def plainT (P : Program) : Nat → TypeId → Bool
  | 0, _ => false
  | n + 1, t => match P.underlying t with
    | some (.int _) => true
    | some (.struct fs) => fs.toList.all fun f => plainT P n f.type
    | some (.array _ e) => plainT P n e
    | _ => false
theorem mapM_plain {α β γ : Type} {f g : α → Option (β × List γ)} : ∀ {l : List α} {xs : List (β × List γ)}, (∀ a ∈ l, ∀ x, f a = some x → x.2 = [] ∧ g a = some x) → l.mapM f = some xs → l.mapM g = some xs ∧ xs.flatMap (·.2) = []
  | [], xs, _, h => by
    simp at h
    subst h
    simp
  | a :: l, xs, hf, h => by
    rw [List.mapM_cons] at h ⊢
    cases h1 : f a with
    | none => rw [h1] at h; cases h
    | some x =>
      rw [h1] at h
      cases h2 : l.mapM f with
      | none => rw [h2] at h; cases h
      | some ys =>
        rw [h2] at h
        obtain ⟨k1, k2⟩ := hf a List.mem_cons_self x h1
        obtain ⟨m1, m2⟩ := mapM_plain (g := g) (fun b hb => hf b (List.mem_cons_of_mem _ hb)) h2
        rw [k2, m1]
        simp at h
        subst h
        simp [k1] at m2 ⊢
        exact m2
section
variable {H : Type} {enc : TypeId × Value → H} {P : Program}
theorem trod_plain {w : World} {base : Nat} {sp : Nat → Bool} {hd : Bool} (w' : World) (base' : Nat) (sp' : Nat → Bool) (hd' : Bool) : ∀ (n : Nat) (t : TypeId), plainT P n t = true → ∀ (fuel : Nat) (cs : List Value) (x : DataW H × List MemPlace), DataW.trod enc P w base sp hd fuel t cs = some x →
    x.2 = [] ∧ DataW.trod enc P w' base' sp' hd' fuel t cs = some x
  | 0, t, h => by simp [plainT] at h
  | n + 1, t, h => by
    intro fuel cs x hx
    have hx0 := hx
    cases fuel with
    | zero => exact absurd hx (by rw [DataW.trod]; intro e; cases e)
    | succ fuel =>
      rw [plainT] at h
      rw [DataW.trod.eq_def] at hx ⊢
      simp only at hx ⊢
      cases hu : P.underlying t with
      | none => rw [hu] at h; simp at h
      | some u =>
        rw [hu] at h hx
        cases u with
        | int k =>
          obtain ⟨m, rfl, rfl, hw⟩ := DataW.trod_int hu hx0
          simp only
          rw [if_pos ⟨trivial, hw⟩]
          exact ⟨trivial, rfl⟩
        | struct fs =>
          simp only at h hx ⊢
          split at hx
          · rename_i hl
            rw [if_pos hl]
            simp only [Option.map_eq_some_iff] at hx ⊢
            obtain ⟨ys, h1, rfl⟩ := hx
            obtain ⟨m1, m2⟩ := mapM_plain (g := fun f : Field => DataW.trod enc P w' base' sp' hd' fuel f.type ((cs.drop f.offset).take (P.cellsOf f.type))) (fun f hf y hy => trod_plain w' base' sp' hd' n f.type (List.all_eq_true.1 h f hf) fuel _ y hy) h1
            exact ⟨m2, ys, m1, rfl⟩
          · cases hx
        | array m e =>
          simp only at h hx ⊢
          split at hx
          · rename_i hl
            rw [if_pos hl]
            simp only [Option.map_eq_some_iff] at hx ⊢
            obtain ⟨ys, h1, rfl⟩ := hx
            obtain ⟨m1, m2⟩ := mapM_plain (g := fun i : Nat => DataW.trod enc P w' base' sp' hd' fuel e ((cs.drop (i * P.cellsOf e)).take (P.cellsOf e))) (fun i hi y hy => trod_plain w' base' sp' hd' n e h fuel _ y hy) h1
            exact ⟨m2, ys, m1, rfl⟩
          · cases hx
        | _ => simp at h
theorem trod_same {w : World} {base : Nat} {sp : Nat → Bool} {hd : Bool} (n : Nat) {t : TypeId} (hp : plainT P n t = true) {v : Value} {d : DataW H} {ps : List MemPlace} (h : DataW.Trod enc P w base sp hd t v d ps) :
    ps = [] ∧ ∀ (w' : World) (base' : Nat) (sp' : Nat → Bool) (hd' : Bool), DataW.Trod enc P w' base' sp' hd' t v d [] := by
  obtain ⟨fuel, hf⟩ := h
  have h1 := (trod_plain w base sp hd n t hp fuel _ _ hf).1
  simp only at h1
  subst h1
  exact ⟨rfl, fun w' base' sp' hd' => ⟨fuel, (trod_plain w' base' sp' hd' n t hp fuel _ _ hf).2⟩⟩
end

theorem okWide_row {P : Program} {r : Reach} {w : World} {base : Nat} {t : TypeId} {v : Value} (ht : (∃ fs, P.underlying t = some (.struct fs)) ∨ ∃ n e, P.underlying t = some (.array n e)) (h : Value.okWide P w r base t v) :
    ∃ cs, v = .agg cs ∧ cs.size = P.cellsOf t ∧ Row.okWide P w r base t cs := by
  unfold Value.okWide at h
  rcases ht with ⟨fs, ht⟩ | ⟨n, e, ht⟩ <;> rw [ht] at h <;> exact h
theorem cells_u8 {P : Program} {r : Reach} {w : World} {base n : Nat} {t : TypeId} {cs : Array Value} {u : TypeId} (hu5 : P.underlying u = some (.int .u8)) (hc : P.cellTypes P.depth t = some (List.replicate n u)) (hn : 0 < n) (hsz : cs.size = n) (h : Row.okWide P w r base t cs) :
    ∀ (i : Nat) (v : Value), cs[i]? = some v → ∃ x : Nat, v = .int .u8 x ∧ x < 256 := by
  obtain ⟨ts, h1, _, h3⟩ := h
  rw [hc] at h1
  obtain rfl := Option.some.inj h1
  intro i v hv
  obtain ⟨u, hu, hk⟩ := h3 i v hv
  have hi : i < cs.size := (Array.getElem?_eq_some_iff.1 hv).1
  rw [List.length_replicate, List.getElem?_replicate] at hu
  split at hu
  · obtain rfl := Option.some.inj hu
    unfold Cell.okWide at hk
    rw [hu5] at hk
    cases v <;> simp [Cell.ok, hu5] at hk
    obtain ⟨rfl, hb⟩ := hk
    rename_i m
    simp [IntKind.has, IntKind.min, IntKind.max, IntKind.signed, IntKind.bits] at hb
    exact ⟨m.toNat, by congr 1; omega, by omega⟩
  · cases hu

theorem u8_gen {P : Program} {t : TypeId} (hu : P.underlying t = some (.int .u8)) {w : World} {r : Reach} {base : Nat} {v : Value} (h : Value.okWide P w r base t v) : ∃ x : Nat, v = .int .u8 x ∧ x < 256 := by
  unfold Value.okWide at h
  rw [hu] at h
  simp only at h
  unfold Cell.okWide at h
  rw [hu] at h
  cases v <;> simp [Cell.ok, hu] at h
  obtain ⟨rfl, hb⟩ := h
  rename_i m
  simp [IntKind.has, IntKind.min, IntKind.max, IntKind.signed, IntKind.bits] at hb
  exact ⟨m.toNat, by congr 1; omega, by omega⟩

theorem nums_list : ∀ (l : List Value), (∀ v ∈ l, ∃ x : Nat, v = .int .u8 x ∧ x < 256) → ∃ xs : List Int, l = flat8 xs ∧ ∀ x ∈ xs, 0 ≤ x ∧ x ≤ 255
  | [], _ => ⟨[], rfl, by simp⟩
  | v :: l, h => by
    obtain ⟨x, rfl, hx⟩ := h v (by simp)
    obtain ⟨xs, e, hb⟩ := nums_list l fun u hu => h u (by simp [hu])
    refine ⟨(x : Int) :: xs, by rw [e]; rfl, fun y hy => ?_⟩
    rcases List.mem_cons.1 hy with rfl | hy
    · omega
    · exact hb y hy
/-- numbers of eight bits, in structs and arrays -/
theorem nums_gen {P : Program} {t u : TypeId} {n : Nat} (ht : (∃ fs, P.underlying t = some (.struct fs)) ∨ ∃ n e, P.underlying t = some (.array n e)) (hu : P.underlying u = some (.int .u8)) (hc : P.cellTypes P.depth t = some (List.replicate n u)) (hn : 0 < n) (hsz0 : P.cellsOf t = n)
    {w : World} {r : Reach} {base : Nat} {v : Value} (h : Value.okWide P w r base t v) : ∃ xs : List Int, v = .agg (flat8 xs).toArray ∧ xs.length = n ∧ ∀ x ∈ xs, 0 ≤ x ∧ x ≤ 255 := by
  obtain ⟨cs, rfl, hsz, hrow⟩ := okWide_row ht h
  rw [hsz0] at hsz
  have hb := cells_u8 hu hc hn hsz hrow
  have hv : ∀ v ∈ cs.toList, ∃ x : Nat, v = .int .u8 x ∧ x < 256 := by
    intro v hv
    obtain ⟨i, hi, e⟩ := List.getElem_of_mem hv
    refine hb i v ?_
    rw [← Array.getElem?_toList, List.getElem?_eq_getElem hi, e]
  obtain ⟨xs, e, hx⟩ := nums_list _ hv
  refine ⟨xs, by rw [← e], ?_, hx⟩
  have h1 := congrArg List.length e
  rw [flat8_length, Array.length_toList, hsz] at h1
  exact h1.symm
theorem u8I_gen {P : Program} {t : TypeId} (hu : P.underlying t = some (.int .u8)) {w : World} {r : Reach} {base : Nat} {v : Value} (h : Value.okWide P w r base t v) : ∃ x : Int, v = .int .u8 x ∧ 0 ≤ x ∧ x ≤ 255 := by
  obtain ⟨x, e, hx⟩ := u8_gen hu h
  exact ⟨x, e, by omega, by omega⟩
section
variable {H : Type} {enc : TypeId × Value → H} {P : Program} {w : World} {base : Nat} {spare : Nat → Bool} {held : Bool}
theorem trodAll_more {t : TypeId} {ts : List TypeId} {vs : List Value} {ds : List (DataW H)} {ps : List MemPlace} (h : DataW.TrodAll enc P w base spare held (t :: ts) vs ds ps) :
    ∃ v vs' d ds' p q, vs = v :: vs' ∧ ds = d :: ds' ∧ ps = p ++ q ∧ DataW.Trod enc P w base spare held t v d p ∧ DataW.TrodAll enc P w base spare held ts vs' ds' q := trodAll_cons h
theorem arr_eq {args : Array Value} {l : List Value} (h : args.toList = l) : args = l.toArray := by subst h; simp
end
theorem cellsAdit : Tryz.prog.cellTypes Tryz.prog.depth 44 = some (List.replicate 22 5) := by kernel_rfl
theorem cofAdit : Tryz.prog.cellsOf 44 = 22 := by kernel_rfl
theorem plainAdit : plainT Tryz.prog 5 44 = true := by kernel_rfl
theorem plainU8 : plainT Tryz.prog 5 5 = true := by kernel_rfl
theorem adit_of {w : World} {r : Reach} {base : Nat} {v : Value} : Value.okWide Tryz.prog w r base 44 v → ∃ xs : List Int, v = .agg (flat8 xs).toArray ∧ xs.length = 22 ∧ ∀ x ∈ xs, 0 ≤ x ∧ x ≤ 255 := nums_gen (.inl ⟨_, Tryz.underlying44⟩) Tryz.underlying5 cellsAdit (by omega) cofAdit
theorem u8_of {w : World} {r : Reach} {base : Nat} {v : Value} : Value.okWide Tryz.prog w r base 5 v → ∃ x : Int, v = .int .u8 x ∧ 0 ≤ x ∧ x ≤ 255 := u8I_gen Tryz.underlying5
end Go.Proofs.YtadamjleglckpaaGreat.drn

/- A hill by numbers, plainly: its channels have no error, nor have those of a part of them. -/
namespace Go.Proofs.YtadamjleglckpaaGreat.drn
/-- a list of channels without an error -/
theorem chErr_of {n : Int} {c : Ch} (h : ChOk n c) : chErr n c = 0 := by
  obtain ⟨⟨a, b⟩, ⟨c1, c2⟩, d, e, f⟩ := h
  unfold chErr
  rw [if_neg (by simp only [isGal, Bool.or_eq_true, Bool.not_eq_true', Bool.and_eq_true, Bool.and_eq_false_iff, decide_eq_false_iff_not, bne_iff_ne, ne_eq]; omega),
    if_neg (by simpa using d), if_neg (by simp only [Bool.or_eq_true, decide_eq_true_eq]; omega)]
theorem csErr_of {n : Int} : ∀ (r s : List Ch), (∀ c ∈ r, ChOk n c) → (∀ c ∈ r, ∀ d ∈ s, ¬(d.1 = c.1 ∧ d.2.1 = c.2.1)) → (r.Pairwise fun d c => ¬(d.1 = c.1 ∧ d.2.1 = c.2.1)) → csErr n s r = 0
  | [], _, _, _, _ => rfl
  | c :: r, s, h1, h2, h3 => by
    rw [List.pairwise_cons] at h3
    unfold csErr
    rw [if_neg (by rw [chErr_of (h1 c (by simp))]; simp), if_neg ?_]
    · refine csErr_of r _ (fun x hx => h1 x (by simp [hx])) (fun x hx d hd => ?_) h3.2
      rcases List.mem_append.1 hd with hd | hd
      · exact h2 x (by simp [hx]) d hd
      · obtain rfl : d = c := by simpa using hd
        exact h3.1 x hx
    · intro ha
      rw [List.any_eq_true] at ha
      obtain ⟨d, hd, he⟩ := ha
      exact h2 c (by simp) d hd (by simpa using he)
theorem errD_of {n : Int} {cs : List Ch} (h1 : 1 ≤ n) (h6 : n ≤ 6) (h14 : cs.length ≤ 14) (hc : ∀ c ∈ cs, ChOk n c) (hp : cs.Pairwise fun d c => ¬(d.1 = c.1 ∧ d.2.1 = c.2.1)) : errD n cs = 0 := by
  unfold errD
  rw [if_neg (by omega), if_neg (by omega)]
  exact csErr_of cs [] hc (by simp) hp
theorem errD_sub {n : Int} {cs ds : List Ch} (h : errD n cs = 0) (hs : ds.Sublist cs) : errD n ds = 0 := by
  obtain ⟨a, b, c, d, e⟩ := errD_ok h
  exact errD_of a b (Nat.le_trans hs.length_le c) (fun x hx => d x (hs.subset hx)) (e.sublist hs)

def toS (n st g : Nat) : Nat := (g + st) % (n + 1)
def takesS (xs : List Int) (n st g : Nat) : Bool := (xs.getD (2 + g) 0).toNat.testBit (st % 8) && toS n st g != g
def mkCh (xs : List Int) (n st g k : Nat) : Ch := (g, toS n st g, xs.getD (8 + k) 0 % (1 + xs.getD 1 0 % 21))
def madeRow (xs : List Int) (n m st : Nat) : Nat → List Ch → List Ch
  | 0, l => l
  | g + 1, l => if takesS xs n st g && decide ((madeRow xs n m st g l).length < m) then madeRow xs n m st g l ++ [mkCh xs n st g (madeRow xs n m st g l).length] else madeRow xs n m st g l
def madeTo (xs : List Int) (n m : Nat) : Nat → List Ch
  | 0 => []
  | s + 1 => madeRow xs n m (s + 1) n (madeTo xs n m s)
def madeS (xs : List Int) (n m : Nat) : List Ch := madeTo xs n m n

/-- a channel of a step before some, or of this step and a gallery before some -/
def OfStep (n st g : Nat) (c : Ch) : Prop := ∃ s h, 1 ≤ s ∧ s ≤ n ∧ h < n ∧ (s < st ∨ s = st ∧ h < g) ∧ c.1 = (h : Int) ∧ c.2.1 = (toS n s h : Nat) ∧ c.1 ≠ c.2.1 ∧ 0 ≤ c.2.2 ∧ c.2.2 ≤ 20
structure MadeOk (n m st g : Nat) (l : List Ch) : Prop where
  len : l.length ≤ m
  each : ∀ c ∈ l, OfStep n st g c
  apart : l.Pairwise fun d c => ¬(d.1 = c.1 ∧ d.2.1 = c.2.1)
theorem toS_inj {n s t h : Nat} (h1 : 1 ≤ s) (h2 : s ≤ n) (h3 : 1 ≤ t) (h4 : t ≤ n) (hh : h < n) (e : toS n s h = toS n t h) : s = t := by
  unfold toS at e
  have f : ∀ x, 1 ≤ x → x ≤ n → (h + x) % (n + 1) = if h + x ≤ n then h + x else h + x - (n + 1) := by
    intro x _ _
    split
    · exact Nat.mod_eq_of_lt (by omega)
    · rw [Nat.mod_eq_sub_mod (by omega), Nat.mod_eq_of_lt (by omega)]
  rw [f s h1 h2, f t h3 h4] at e
  split at e <;> split at e <;> omega
theorem OfStep.up {n st g g' : Nat} {c : Ch} (h : OfStep n st g c) (hg : g ≤ g') : OfStep n st g' c := by
  obtain ⟨s, k, a, b, d, e, f⟩ := h
  exact ⟨s, k, a, b, d, by omega, f⟩
theorem OfStep.next {n st g g' : Nat} {c : Ch} (h : OfStep n st g c) : OfStep n (st + 1) g' c := by
  obtain ⟨s, k, a, b, d, e, f⟩ := h
  exact ⟨s, k, a, b, d, by omega, f⟩
theorem getD_inl {α : Type} (l : List α) (k : Nat) (d : α) (h : k < l.length) : l.getD k d ∈ l := by rw [List.getD_eq_getElem?_getD, List.getElem?_eq_getElem h]; exact List.getElem_mem h
theorem mk_ok {xs : List Int} (hxo : ∀ x ∈ xs, 0 ≤ x ∧ x ≤ 255) (n st g k : Nat) : 0 ≤ (mkCh xs n st g k).2.2 ∧ (mkCh xs n st g k).2.2 ≤ 20 := by
  unfold mkCh
  have h0 : ∀ i, 0 ≤ xs.getD i 0 := fun i => by
    by_cases hi : i < xs.length
    · exact (hxo _ (getD_inl xs i 0 hi)).1
    · rw [List.getD_eq_getElem?_getD, List.getElem?_eq_none (by omega)]; simp
  have := h0 (8 + k)
  have := h0 1
  show 0 ≤ xs.getD (8 + k) 0 % (1 + xs.getD 1 0 % 21) ∧ xs.getD (8 + k) 0 % (1 + xs.getD 1 0 % 21) ≤ 20
  have h1 : 0 < 1 + xs.getD 1 0 % 21 := by omega
  have := Int.emod_nonneg (xs.getD (8 + k) 0) (Int.ne_of_gt h1)
  have := Int.emod_lt_of_pos (xs.getD (8 + k) 0) h1
  omega
theorem row_ok {xs : List Int} (hxo : ∀ x ∈ xs, 0 ≤ x ∧ x ≤ 255) {n m st : Nat} (h1 : 1 ≤ st) (h2 : st ≤ n) : ∀ (g : Nat) (l : List Ch), g ≤ n → MadeOk n m st 0 l → MadeOk n m st g (madeRow xs n m st g l)
  | 0, l, _, h => h
  | g + 1, l, hg, h => by
    have ih := row_ok hxo h1 h2 g l (by omega) h
    unfold madeRow
    split
    · rename_i ht
      simp only [Bool.and_eq_true, decide_eq_true_eq] at ht
      obtain ⟨t1, t2⟩ := ht
      generalize madeRow xs n m st g l = r at *
      have hne : toS n st g ≠ g := by
        unfold takesS at t1
        simp only [Bool.and_eq_true, bne_iff_ne] at t1
        exact t1.2
      refine ⟨by rw [List.length_append]; simp; omega, fun c hc => ?_, ?_⟩
      · rcases List.mem_append.1 hc with hc | hc
        · exact (ih.each c hc).up (by omega)
        · obtain rfl : c = mkCh xs n st g r.length := by simpa using hc
          exact ⟨st, g, h1, h2, by omega, by omega, rfl, rfl, by unfold mkCh; show (g : Int) ≠ (toS n st g : Nat); omega, mk_ok hxo n st g _⟩
      · rw [List.pairwise_append]
        refine ⟨ih.apart, by simp, fun d hd c hc he => ?_⟩
        obtain rfl : c = mkCh xs n st g r.length := by simpa using hc
        obtain ⟨s, k, a1, a2, a3, a4, a5, a6, _⟩ := ih.each d hd
        obtain ⟨e1, e2⟩ := he
        have e3 : (k : Int) = (g : Int) := by rw [← a5, e1]; rfl
        obtain rfl : k = g := by omega
        have e4 : (toS n s k : Int) = (toS n st k : Nat) := by rw [← a6, e2]; rfl
        have := toS_inj a1 a2 h1 h2 a3 (by omega)
        omega
    · exact ⟨ih.len, fun c hc => (ih.each c hc).up (by omega), ih.apart⟩
theorem madeTo_ok {xs : List Int} (hxo : ∀ x ∈ xs, 0 ≤ x ∧ x ≤ 255) {n m : Nat} : ∀ s, s ≤ n → MadeOk n m (s + 1) 0 (madeTo xs n m s)
  | 0, _ => ⟨Nat.zero_le _, by simp [madeTo], by simp [madeTo]⟩
  | s + 1, hs => by
    have := row_ok (m := m) hxo (n := n) (st := s + 1) (by omega) hs n _ (Nat.le_refl _) (madeTo_ok hxo s (by omega))
    exact ⟨this.len, fun c hc => (this.each c hc).next, this.apart⟩
theorem toS_le (n st g : Nat) : toS n st g ≤ n := by unfold toS; have := Nat.mod_lt (g + st) (show 0 < n + 1 by omega); omega
theorem made_len {xs : List Int} (hxo : ∀ x ∈ xs, 0 ≤ x ∧ x ≤ 255) (n m : Nat) : (madeS xs n m).length ≤ m := (madeTo_ok hxo n (Nat.le_refl _)).len
theorem made_err {xs : List Int} (hxo : ∀ x ∈ xs, 0 ≤ x ∧ x ≤ 255) {n m : Nat} (h1 : 1 ≤ n) (h6 : n ≤ 6) (hm : m ≤ 14) : errD n (madeS xs n m) = 0 := by
  have h := madeTo_ok (m := m) hxo n (Nat.le_refl _)
  refine errD_of (by omega) (by omega) (Nat.le_trans h.len hm) (fun c hc => ?_) h.apart
  obtain ⟨s, k, a1, a2, a3, a4, a5, a6, a7, a8, a9⟩ := h.each c hc
  have := toS_le n s k
  exact ⟨by rw [a5]; omega, by rw [a6]; omega, a7, a8, a9⟩
end Go.Proofs.YtadamjleglckpaaGreat.drn

/- A region that draws its order and ends in one store: what the store's cell held before may be read first (a condition on the world that is asked up to the store, not behind it). -/
namespace Go.Proofs.YtadamjleglckpaaGreat
open Go

section
variable {P : Program} {md : Region.Mode} {ops : Array Oper} {Q : Exit → Act → World → Prop} {S : World → Prop} {z : Nat}

/-- in whatever order it goes on: S holds behind each operation but number z -/
def Until (P : Program) (md : Region.Mode) (ops : Array Oper) (Q : Exit → Act → World → Prop) (S : World → Prop) (z : Nat) : Nat → Array Bool → Act → World → Prop
  | 0 => fun l a w => Region.ready md ops l = [] ∧ Q .normal a w
  | k + 1 => fun l a w => (Region.ready md ops l = [] → Q .normal a w) ∧ ∀ j, j ∈ Region.ready md ops l → wpOp P ops Q j (fun b u => (j ≠ z → S u) ∧ Until P md ops Q S z k (l.setIfInBounds j true) b u) a w

theorem Until.any : ∀ {k : Nat} {l : Array Bool} {a : Act} {w : World}, Until P md ops Q S z k l a w → wpAny P md ops Q k l a w
  | 0, _, _, _, h => h
  | _ + 1, _, _, _, h => And.intro h.1 fun j hj => wpOp_mono (fun _ _ g => Until.any g.2) (h.2 j hj)

/-- what waits for i does not come up together with i -/
theorem not_both {i j : Nat} {oj : Oper} {l : Array Bool} (hoj : ops[j]? = some oj) (hw : ∃ e ∈ oj.after, Region.binds md e = true ∧ e.on = i) (hi : i ∈ Region.ready md ops l) : j ∉ Region.ready md ops l := by
  intro hj
  obtain ⟨e, he, hb, rfl⟩ := hw
  obtain ⟨_, o, ho, hall⟩ := mem_ready.1 hj
  rw [hoj] at ho
  obtain rfl := Option.some.inj ho
  have h1 := hall e he hb
  have h2 := (mem_ready.1 hi).1
  by_cases h : e.on < l.size
  · simp [h] at h1 h2
    rw [h1] at h2
    cases h2
  · simp [Array.getElem?_eq_none (Nat.le_of_not_lt h)] at h1

/-- an operation whose value S tells may be taken first, if number z waits for it -/
theorem Until.early {i : Nat} {oi oz : Oper} {v : Value} (hi : ops[i]? = some oi) (hoz : ops[z]? = some oz) (hwz : ∃ e ∈ oz.after, Region.binds md e = true ∧ e.on = i) (hns : Region.noSelect ops = true)
    (hQ : ∀ c a w, Q (.panic c) (a.put oi.dst v) w → Q (.panic c) a w) :
    ∀ (k : Nat) (l : Array Bool) (a : Act) (w : World), (∀ j oj, ops[j]? = some oj → j ≠ i → l.getD j true = false → (∀ e ∈ oj.after, Region.binds md e = true → e.on ≠ i) → oi.apart ops oj = true) →
      i ∈ Region.ready md ops l → YieldsIf P ops S oi v a → S w → Until P md ops Q S z k (l.setIfInBounds i true) (a.put oi.dst v) w → Until P md ops Q S z (k + 1) l a w := by
  intro k
  induction k with
  | zero =>
    intro l a w _ hr hy hS g
    refine And.intro (fun e => absurd (e ▸ hr) (by simp)) fun j hj => ?_
    by_cases e : j = i
    · subst e
      exact hy.wpOp hi hS ⟨fun _ => hS, g⟩
    · exact absurd (g.1 ▸ ready_mono hj e) (by simp)
  | succ k ih =>
    intro l a w hap hr hy hS g
    refine And.intro (fun e => absurd (e ▸ hr) (by simp)) fun j hj => ?_
    by_cases e : j = i
    · subst e
      exact hy.wpOp hi hS ⟨fun _ => hS, g⟩
    · obtain ⟨hun, oj, hoj, _⟩ := mem_ready.1 hj
      have hjz : j ≠ z := fun h => not_both (md := md) hoz hwz hr (h ▸ hj)
      have hno : ∀ e ∈ oj.after, Region.binds md e = true → e.on ≠ i := fun e he hb heq => not_both (md := md) hoj ⟨e, he, hb, heq⟩ hr hj
      have hsel := Region.noSelect_spec hns
      have hst := wpOp_putIf hoj (hap j oj hoj e hun hno) (fun cs b => hsel i oi cs b hi) (fun cs b => hsel j oj cs b hoj) hQ hy (g.2 j (ready_mono hj e))
      refine wpOp_mono (fun b u hbu => ?_) hst
      obtain ⟨hy', hS', g'⟩ := hbu
      refine ⟨fun _ => hS' hjz, ih _ b u (fun m om hm hmi hmun hmno => hap m om hm hmi ?_ hmno) (ready_mono hr (Ne.symm e)) hy' (hS' hjz) ?_⟩
      · by_cases hjm : j = m
        · exact hjm ▸ hun
        · rwa [getD_set_ne true hjm] at hmun
      · rw [Array.setIfInBounds_comm _ _ e]
        exact g'

theorem Until.take {i : Nat} {oi oz : Oper} {v : Value} {k : Nat} {l : Array Bool} {a : Act} {w : World} (hi : ops[i]? = some oi) (hoz : ops[z]? = some oz)
    (hwz : oz.after.any (fun e => Region.binds md e && e.on == i) = true) (hns : Region.noSelect ops = true) (hf : Region.free md ops l i = true) (hr : (Region.ready md ops l).contains i = true)
    (hQ : ∀ c a w, Q (.panic c) (a.put oi.dst v) w → Q (.panic c) a w) (hy : YieldsIf P ops S oi v a) (hS : S w)
    (h : Until P md ops Q S z k (l.setIfInBounds i true) (a.put oi.dst v) w) : Until P md ops Q S z (k + 1) l a w := by
  refine Until.early hi hoz ?_ hns hQ k l a w (Region.free_spec hi hf) (by simpa using hr) hy hS h
  obtain ⟨e, he, hb⟩ := Array.any_eq_true'.1 hwz
  simp only [Bool.and_eq_true, beq_iff_eq] at hb
  exact ⟨e, he, hb.1, hb.2⟩

theorem Until.taken {i : Nat} {oi oz : Oper} {v : Value} {k : Nat} {l : Array Bool} {a : Act} {w : World} (d : Option Nat) (hi : ops[i]? = some oi) (hd : oi.dst = d) (hoz : ops[z]? = some oz)
    (hwz : oz.after.any (fun e => Region.binds md e && e.on == i) = true) (hns : Region.noSelect ops = true) (hf : Region.free md ops l i = true) (hr : (Region.ready md ops l).contains i = true)
    (hQ : ∀ c a w, Q (.panic c) (a.put oi.dst v) w → Q (.panic c) a w) (hy : YieldsIf P ops S oi v a) (hS : S w)
    (h : Until P md ops Q S z k (l.setIfInBounds i true) (a.put d v) w) : Until P md ops Q S z (k + 1) l a w :=
  Until.take hi hoz hwz hns hf hr hQ hy hS (by rw [hd]; exact h)

/-- the only one that may come up -/
theorem Until.one {i : Nat} {o : Oper} {k : Nat} {l : Array Bool} {a : Act} {w : World} (ho : ops[i]? = some o) (hr : Region.ready md ops l = [i])
    (h : ∀ K : Act → World → Prop, (∀ b u, (i ≠ z → S u) → Until P md ops Q S z k (l.setIfInBounds i true) b u → K b u) → if Region.wanted o (yielded ops a.tmps) = true then Oper.wp P o a w K Q else K (a.put o.dst undef) w) :
    Until P md ops Q S z (k + 1) l a w := by
  refine And.intro (fun e => by rw [hr] at e; cases e) fun j hj => ?_
  rw [hr] at hj
  obtain rfl := List.mem_singleton.1 hj
  exact wpOp_step ho fun K hK => h K fun b u h1 h2 => hK b u ⟨h1, h2⟩
theorem Until.done {k : Nat} {l : Array Bool} {a : Act} {w : World} (hr : Region.ready md ops l = []) (h : Q .normal a w) : Until P md ops Q S z k l a w := by
  cases k with
  | zero => exact And.intro hr h
  | succ k => exact And.intro (fun _ => h) fun j hj => by rw [hr] at hj; cases hj
theorem Until.start {id : Nat} {a : Act} {w : World} (hm : P.follows .mixedOrders = true) (h : Until P .any ops Q S z ops.size (Array.replicate ops.size false) a w.drew) : (Code.region id ops true).wp P Q a w :=
  wp_region_any hm (Until.any h)
end
end Go.Proofs.YtadamjleglckpaaGreat

