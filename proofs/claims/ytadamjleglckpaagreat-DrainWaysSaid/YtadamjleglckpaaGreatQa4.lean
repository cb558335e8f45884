/- The law's list of all plans, plainly: all choices of a channel from each gallery by which all drain. -/
import Derived.Test.YtadamjleglckpaaGreatQa3
import Derived.Lib.SliceRun
import Derived.Deep.RegionHeld3
import Derived.Deep.Cut
import Derived.Deep.RegionLaw
import Derived.Laws.EntriesVeiled

namespace Go.Proofs.YtadamjleglckpaaGreat.drn
def flowF (n : Nat) (to : List Int) : Nat → Int → Int
  | 0, g => g
  | k + 1, g => flowF n to k (if g < n then to.getD g.toNat 0 else g)
def flowsS (n : Nat) (to : List Int) : Bool := (List.range n).all fun g => !decide (flowF n to n (g : Int) < n)
def putS (n : Nat) (cs : List Ch) : Nat → List Int → List Int → List (List Int)
  | 0, plan, to => if flowsS n to then [plan] else []
  | k + 1, plan, to => (List.range cs.length).flatMap fun i => if (chAt cs i).1 = (to.length : Int) then putS n cs k (plan ++ [(i : Int)]) (to ++ [(chAt cs i).2.1]) else []
def toI (cs : List Ch) (i : Int) : Int := (chAt cs i.toNat).2.1
/-- a channel from each gallery, from one number on -/
def Sel (cs : List Ch) : Nat → List Int → Prop
  | _, [] => True
  | g, x :: r => (0 ≤ x ∧ x < cs.length) ∧ frm cs x = g ∧ Sel cs (g + 1) r
theorem mem_putS (n : Nat) (cs : List Ch) : ∀ (k : Nat) (plan to p : List Int), p ∈ putS n cs k plan to ↔ ∃ r, p = plan ++ r ∧ r.length = k ∧ Sel cs to.length r ∧ flowsS n (to ++ r.map (toI cs)) = true
  | 0, plan, to, p => by
    unfold putS
    constructor
    · intro h
      split at h
      · rename_i hf
        obtain rfl : p = plan := by simpa using h
        exact ⟨[], by simp, rfl, trivial, by simpa using hf⟩
      · simp at h
    · rintro ⟨r, rfl, hr, _, hf⟩
      obtain rfl := List.length_eq_zero_iff.1 hr
      rw [if_pos (by simpa using hf)]
      simp
  | k + 1, plan, to, p => by
    unfold putS
    rw [List.mem_flatMap]
    constructor
    · rintro ⟨i, hi, h⟩
      split at h
      · rename_i hg
        obtain ⟨r, rfl, hl, hs, hf⟩ := (mem_putS n cs k _ _ p).1 h
        refine ⟨(i : Int) :: r, by simp, by simp [hl], ⟨⟨by omega, by have := List.mem_range.1 hi; omega⟩, by simpa [frm, chAt] using hg, by simpa using hs⟩, ?_⟩
        rw [List.map_cons]
        rw [List.append_assoc] at hf
        simpa [toI] using hf
      · simp at h
    · rintro ⟨r, rfl, hl, hs, hf⟩
      match r, hl, hs, hf with
      | x :: r, hl, ⟨⟨h0, h1⟩, hx, hs⟩, hf =>
        have e : ((x.toNat : Nat) : Int) = x := by omega
        refine ⟨x.toNat, List.mem_range.2 (by omega), ?_⟩
        rw [if_pos (show (chAt cs x.toNat).1 = (to.length : Int) from hx)]
        refine (mem_putS n cs k _ _ _).2 ⟨r, by rw [e]; simp, by simpa using hl, by simpa using hs, ?_⟩
        rw [List.append_assoc]
        simpa [toI] using hf
theorem putS_nodup (n : Nat) (cs : List Ch) : ∀ (k : Nat) (plan to : List Int), (putS n cs k plan to).Pairwise (· ≠ ·)
  | 0, plan, to => by
    unfold putS
    split <;> simp
  | k + 1, plan, to => by
    unfold putS
    rw [List.pairwise_flatMap]
    constructor
    · intro i _
      split
      · exact putS_nodup n cs k _ _
      · simp
    · refine List.Pairwise.imp_of_mem ?_ (List.pairwise_lt_range (n := cs.length))
      intro i j _ _ hlt x hx y hy e
      subst e
      split at hx
      · split at hy
        · obtain ⟨r, e1, _⟩ := (mem_putS n cs k _ _ x).1 hx
          obtain ⟨r2, e2, _⟩ := (mem_putS n cs k _ _ x).1 hy
          rw [e1, List.append_assoc, List.append_assoc, List.append_cancel_left_eq] at e2
          simp at e2
          omega
        · simp at hy
      · simp at hx

/-! sorted lists of ints -/
def sortI (l : List Int) : List Int := l.mergeSort fun a b => decide (a ≤ b)
theorem sortI_perm (l : List Int) : (sortI l).Perm l := List.mergeSort_perm l _
theorem sortI_le (l : List Int) : (sortI l).Pairwise (· ≤ ·) := by
  have := List.pairwise_mergeSort (le := fun a b : Int => decide (a ≤ b)) (fun a b c h k => by simp at *; omega) (fun a b => by simp; omega) l
  exact this.imp fun h => by simpa using h
theorem sorted_only {l m : List Int} (hp : l.Perm m) (h1 : l.Pairwise (· ≤ ·)) (h2 : m.Pairwise (· ≤ ·)) : l = m :=
  hp.eq_of_pairwise (fun _ _ _ _ h k => Int.le_antisymm h k) h1 h2

theorem Sel.at {cs : List Ch} : ∀ {r : List Int} {g : Nat}, Sel cs g r → ∀ (j : Nat) (h : j < r.length), (0 ≤ r[j] ∧ r[j] < cs.length) ∧ frm cs r[j] = ((g + j : Nat) : Int)
  | x :: r, g, ⟨h0, h1, h2⟩, 0, _ => ⟨h0, h1⟩
  | x :: r, g, ⟨h0, h1, h2⟩, j + 1, h => by
    have := h2.at j (by simpa using h)
    simpa [Nat.add_assoc, Nat.add_comm 1 j] using this
theorem Sel.of {cs : List Ch} : ∀ {r : List Int} {g : Nat}, (∀ (j : Nat) (h : j < r.length), (0 ≤ r[j] ∧ r[j] < cs.length) ∧ frm cs r[j] = ((g + j : Nat) : Int)) → Sel cs g r
  | [], g, _ => trivial
  | x :: r, g, h => ⟨(h 0 (by simp)).1, (h 0 (by simp)).2.trans (by simp), Sel.of fun j hj => by
    have := h (j + 1) (by simpa using hj)
    simpa [Nat.add_assoc, Nat.add_comm 1 j] using this⟩
theorem Sel.inj {cs : List Ch} {r r' : List Int} {g : Nat} (h : Sel cs g r) (h' : Sel cs g r') (hl : r.length = r'.length) (hm : ∀ x ∈ r, x ∈ r') : r = r' := by
  apply List.ext_getElem hl
  intro j h1 h2
  obtain ⟨i, hi, e⟩ := List.getElem_of_mem (hm _ (List.getElem_mem h1))
  have a := (h.at j h1).2
  have b := (h'.at i hi).2
  rw [e] at b
  have : i = j := by omega
  subst this
  exact e.symm
theorem Sel.ne {cs : List Ch} {r : List Int} {g : Nat} (h : Sel cs g r) : r.Pairwise fun a b => frm cs a ≠ frm cs b := by
  rw [List.pairwise_iff_getElem]
  intro i j hi hj hij e
  have a := (h.at i hi).2
  have b := (h.at j hj).2
  omega
theorem flow_reach {n : Nat} {ch : List Ch} {to : List Int} (ho : OneEach n ch) (ht : ∀ g : Nat, g < n → to.getD g 0 = nextG n ch g) : ∀ (k t : Nat), t ≤ n → ((reach n ch k t = true) ↔ ¬ flowF n to k (t : Int) < n)
  | 0, t, h => by
    simp only [reach, flowF, beq_iff_eq]; omega
  | k + 1, t, h => by
    unfold reach flowF
    by_cases e : t = n
    · subst e
      have := flow_reach ho ht k t (Nat.le_refl _)
      rw [reach_n] at this
      simpa using this
    · rw [if_pos (by omega), Int.toNat_natCast, ht t (by omega)]
      obtain ⟨u, hu, e2⟩ := next_in ho (g := t) (by omega)
      rw [e2, ← flow_reach ho ht k u hu]
      have : ((t : Int) == n) = false := by simp; omega
      rw [this, Bool.false_or]
theorem perm_sub : ∀ {p l : List Int}, p.Pairwise (· ≠ ·) → (∀ x ∈ p, x ∈ l) → l.length ≤ p.length → p.Perm l
  | [], l, _, _, h => by
    obtain rfl : l = [] := List.length_eq_zero_iff.1 (by simpa using h)
    exact .nil
  | x :: p, l, hn, hs, h => by
    rw [List.pairwise_cons] at hn
    have hx := hs x (by simp)
    have h1 := List.perm_cons_erase hx
    have ih := perm_sub (p := p) (l := l.erase x) hn.2 (fun y hy => (List.mem_erase_of_ne (hn.1 y hy).symm).2 (hs y (by simp [hy]))) (by
      have := h1.length_eq
      simp at this h
      omega)
    exact (ih.cons x).trans h1.symm
theorem lexI_total : ∀ a b : List Int, List.Lex (· < ·) a b ∨ a = b ∨ List.Lex (· < ·) b a
  | [], [] => .inr (.inl rfl)
  | [], _ :: _ => .inl .nil
  | _ :: _, [] => .inr (.inr .nil)
  | x :: a, y :: b => by
    rcases Int.lt_trichotomy x y with h | h | h
    · exact .inl (.rel h)
    · subst h
      rcases lexI_total a b with h | h | h
      · exact .inl (.cons h)
      · exact .inr (.inl (by rw [h]))
      · exact .inr (.inr (.cons h))
    · exact .inr (.inr (.rel h))
theorem sel_one {n : Nat} {cs : List Ch} (hc : ∀ c ∈ cs, ChOk n c) {p l : List Int} (hl : p.length = n) (h : Sel cs 0 p) (hp : l.Perm p) : OneEach n (chosenS cs l) ∧ ∀ g : Nat, g < n → (p.map (toI cs)).getD g 0 = nextG n (chosenS cs l) g := by
  have hmem : ∀ c ∈ chosenS cs l, ∃ j, ∃ hj : j < p.length, c = chAt cs p[j].toNat := by
    intro c hcm
    obtain ⟨x, hx, rfl⟩ := List.mem_map.1 hcm
    obtain ⟨j, hj, e⟩ := List.getElem_of_mem (hp.mem_iff.1 hx)
    exact ⟨j, hj, by rw [e]; rfl⟩
  have hin : ∀ (j : Nat) (hj : j < p.length), chAt cs p[j].toNat ∈ chosenS cs l := fun j hj => List.mem_map.2 ⟨p[j], hp.mem_iff.2 (List.getElem_mem hj), rfl⟩
  have hok : OneEach n (chosenS cs l) := by
    refine ⟨fun c hcm => ?_, fun g hg => ?_, ?_⟩
    · obtain ⟨j, hj, rfl⟩ := hmem c hcm
      have := (h.at j hj).1
      exact getD_ok hc (by omega)
    · exact ⟨_, hin g (by omega), by have := (h.at g (by omega)).2; simpa [frm, chAt] using this⟩
    · unfold chosenS
      rw [List.pairwise_map]
      have h2 : l.Pairwise fun a b => frm cs a ≠ frm cs b := (hp.pairwise_iff (fun {_ _} hab => fun e => hab e.symm)).2 h.ne
      exact h2
  refine ⟨hok, fun g hg => ?_⟩
  have := next_only hok (hin g (by omega))
  have e : (chAt cs (p[g]'(by omega)).toNat).1 = (g : Int) := by have := (h.at g (by omega)).2; simpa [frm, chAt] using this
  rw [e] at this
  rw [this, List.getD_eq_getElem?_getD, List.getElem?_map, List.getElem?_eq_getElem (show g < p.length by omega)]
  rfl
theorem sel_plan {n : Nat} {cs : List Ch} (hn : n ≤ 6) (hc : ∀ c ∈ cs, ChOk n c) {p : List Int} (hl : p.length = n) (h : Sel cs 0 p) (hf : flowsS n (p.map (toI cs)) = true) : Plan n cs (sortI p) := by
  have hp := sortI_perm p
  obtain ⟨ho, ht⟩ := sel_one hc hl h hp
  have hnat : ∀ x ∈ sortI p, 0 ≤ x ∧ x < cs.length := by
    intro x hx
    obtain ⟨j, hj, e⟩ := List.getElem_of_mem (hp.mem_iff.1 hx)
    rw [← e]; exact (h.at j hj).1
  obtain ⟨L, hL⟩ : ∃ L : List Nat, L = (sortI p).map Int.toNat := ⟨_, rfl⟩
  have eL : sortI p = L.map fun i : Nat => (i : Int) := by
    rw [hL, List.map_map]
    conv => lhs; rw [← List.map_id (sortI p)]
    refine List.map_congr_left fun x hx => ?_
    have := hnat x hx
    show x = ((x.toNat : Nat) : Int)
    omega
  have hne : (sortI p).Pairwise fun a b => frm cs a ≠ frm cs b := (hp.pairwise_iff (fun {_ _} hab => fun e => hab e.symm)).2 h.ne
  have hlt : L.Pairwise (· < ·) := by
    rw [hL, List.pairwise_map]
    refine ((sortI_le p).and hne).imp_of_mem ?_
    intro a b ha hb ⟨h1, h2⟩
    have := hnat a ha
    have := hnat b hb
    have : a ≠ b := fun e => h2 (by rw [e])
    omega
  have hL2 : ∀ i ∈ L, i < cs.length := by
    intro i hi
    rw [hL] at hi
    obtain ⟨x, hx, rfl⟩ := List.mem_map.1 hi
    have := hnat x hx
    omega
  obtain ⟨m1, m2⟩ := ext_of cs L 0 0 hlt (fun i hi => ⟨Nat.zero_le _, hL2 i hi, (getD_ok hc (hL2 i hi)).1.1, by simp [inS]⟩) (by
    rw [hL, List.pairwise_map]
    exact hne)
  rw [← eL] at m1 m2
  refine ⟨m1, ?_, ?_⟩
  · have := (Ext.full hn hc m1).2
    rw [this, hp.length_eq, hl]
  · rw [wet_ways hn ho]
    intro g hg
    rw [flow_reach ho ht n g (by omega)]
    unfold flowsS at hf
    rw [List.all_eq_true] at hf
    have := hf g (List.mem_range.2 hg)
    simpa using this
theorem ext_sorted {cs : List Ch} : ∀ {l : List Int} {lo s : Nat}, Ext cs lo s l → (∀ x ∈ l, (lo : Int) ≤ x ∧ x < cs.length) ∧ l.Pairwise (· < ·)
  | [], _, _, _ => ⟨by simp, .nil⟩
  | x :: r, lo, s, ⟨⟨h1, h2⟩, _, h4⟩ => by
    obtain ⟨k1, k2⟩ := ext_sorted h4
    refine ⟨fun y hy => ?_, List.pairwise_cons.2 ⟨fun y hy => ?_, k2⟩⟩
    · rcases List.mem_cons.1 hy with rfl | hy
      · exact ⟨h1, h2⟩
      · have := k1 y hy; exact ⟨by omega, this.2⟩
    · have := k1 y hy; omega
theorem plan_sel {n : Nat} {cs : List Ch} (hn : n ≤ 6) (hc : ∀ c ∈ cs, ChOk n c) {l : List Int} (hP : Plan n cs l) : ∃ p, p.length = n ∧ Sel cs 0 p ∧ flowsS n (p.map (toI cs)) = true ∧ sortI p = l := by
  obtain ⟨h1, h2, h3⟩ := hP
  obtain ⟨hr, hs⟩ := ext_sorted h1
  have hlen : l.length = n := (Ext.full hn hc h1).2.1 h2
  have hcov : ∀ g : Nat, g < n → ∃ x ∈ l, frm cs x = g := by
    intro g hg
    obtain ⟨L, hL⟩ : ∃ L : List Nat, L = l.map Int.toNat := ⟨_, rfl⟩
    have eL : l = L.map fun i : Nat => (i : Int) := by
      rw [hL, List.map_map]
      conv => lhs; rw [← List.map_id l]
      refine List.map_congr_left fun x hx => ?_
      have := hr x hx
      show x = ((x.toNat : Nat) : Int)
      omega
    have key : ∀ (l : List Int) (s : Nat), (∀ x ∈ l, 0 ≤ x ∧ x < cs.length) → inS (addS cs s l) g = true → inS s g = true ∨ ∃ x ∈ l, frm cs x = g := by
      intro l
      induction l with
      | nil => intro s _ h; exact .inl h
      | cons x r ih =>
        intro s hx h
        have hx0 := hx x (by simp)
        have hfx : 0 ≤ frm cs x := (getD_ok hc (i := x.toNat) (by omega)).1.1
        rcases ih (s ||| 1 <<< (frm cs x).toNat) (fun y hy => hx y (by simp [hy])) h with h | ⟨y, hy, e⟩
        · rw [inS_or, Bool.or_eq_true, inS_one, decide_eq_true_eq] at h
          rcases h with h | h
          · exact .inl h
          · exact .inr ⟨x, by simp, by omega⟩
        · exact .inr ⟨y, by simp [hy], e⟩
    have hall : inS (addS cs 0 l) g = true := by
      rw [h2]
      exact (allS_iff (s := allS n) (by have := Nat.two_pow_pos n; unfold allS; omega)).1 rfl g hg
    rcases key l 0 (fun x hx => ⟨by have := hr x hx; omega, (hr x hx).2⟩) hall with h | h
    · simp [inS] at h
    · exact h
  obtain ⟨f, hf⟩ : ∃ f : Nat → Int, ∀ g, g < n → f g ∈ l ∧ frm cs (f g) = g := by
    refine ⟨fun g => if hg : g < n then (hcov g hg).choose else 0, fun g hg => ?_⟩
    have := (hcov g hg).choose_spec
    simp only [dif_pos hg]
    exact this
  obtain ⟨p, hp⟩ : ∃ p, p = (List.range n).map f := ⟨_, rfl⟩
  have hpl : p.length = n := by rw [hp]; simp
  have hsel : Sel cs 0 p := Sel.of fun j hj => by
    have hj' : j < n := by omega
    have e : p[j] = f j := by simp [hp]
    rw [e]
    obtain ⟨a, b⟩ := hf j hj'
    exact ⟨⟨by have := hr _ a; omega, (hr _ a).2⟩, by rw [b]; simp⟩
  have hnd : p.Pairwise (· ≠ ·) := hsel.ne.imp fun h e => h (by rw [e])
  have hln : l.Pairwise (· ≠ ·) := hs.imp fun h => Int.ne_of_lt h
  have hsub : ∀ x ∈ p, x ∈ l := by
    intro x hx
    rw [hp] at hx
    obtain ⟨g, hg, rfl⟩ := List.mem_map.1 hx
    exact (hf g (List.mem_range.1 hg)).1
  have hperm : p.Perm l := by
    exact perm_sub hnd hsub (by omega)
  have e : sortI p = l := sorted_only ((sortI_perm p).trans hperm) (sortI_le p) (hs.imp Int.le_of_lt)
  refine ⟨p, hpl, hsel, ?_, e⟩
  obtain ⟨ho, ht⟩ := sel_one hc hpl hsel hperm.symm
  unfold flowsS
  rw [List.all_eq_true]
  intro g hg
  have := (flow_reach ho ht n g (by have := List.mem_range.1 hg; omega)).1 ((wet_ways hn ho).1 h3 g (List.mem_range.1 hg))
  simpa using this
/-- sorted, the choices are just the plans -/
theorem plans_put {n : Nat} {cs : List Ch} (h1 : 1 ≤ n) (hn : n ≤ 6) (hc : ∀ c ∈ cs, ChOk n c) {S : List (List Int)} (hp : S.Perm ((putS n cs n [] []).map sortI)) (hs : S.Pairwise fun a b => ¬ List.Lex (· < ·) b a) : S = plansS n cs := by
  have hmem : ∀ l, l ∈ S ↔ Plan n cs l := by
    intro l
    rw [hp.mem_iff, List.mem_map]
    constructor
    · rintro ⟨p, hpm, rfl⟩
      obtain ⟨r, rfl, hl, hsel, hf⟩ := (mem_putS n cs n [] [] p).1 hpm
      exact sel_plan hn hc (by simpa using hl) (by simpa using hsel) (by simpa using hf)
    · intro hP
      obtain ⟨p, a, b, c, d⟩ := plan_sel hn hc hP
      exact ⟨p, (mem_putS n cs n [] [] p).2 ⟨p, by simp, a, by simpa using b, by simpa using c⟩, d⟩
  have hnd : S.Pairwise (· ≠ ·) := by
    refine (hp.pairwise_iff (fun {_ _} hab => fun e => hab e.symm)).2 ?_
    rw [List.pairwise_map]
    refine (putS_nodup n cs n [] []).imp_of_mem ?_
    intro a b ha hb hne e
    obtain ⟨r, rfl, hl, hsel, hf⟩ := (mem_putS n cs n [] [] a).1 ha
    obtain ⟨r2, rfl, hl2, hsel2, hf2⟩ := (mem_putS n cs n [] [] b).1 hb
    refine hne (Sel.inj hsel hsel2 (by omega) fun x hx => ?_)
    first | rw [← (sortI_perm b).mem_iff, ← e, (sortI_perm a).mem_iff] | rw [← (sortI_perm r2).mem_iff, ← e, (sortI_perm r).mem_iff]
    exact hx
  refine plans_only h1 hc ?_ hmem
  refine (hs.and hnd).imp ?_
  intro a b ⟨h, hne⟩
  rcases lexI_total a b with h1 | h1 | h1
  · exact h1
  · exact absurd h1 hne
  · exact absurd h1 h
end Go.Proofs.YtadamjleglckpaaGreat.drn

/- The law's list of all plans, plainly: how far it can grow; steps of a way. -/
namespace Go.Proofs.YtadamjleglckpaaGreat.drn
def nxF (n : Nat) (to : List Int) (g : Int) : Int := if g < n then to.getD g.toNat 0 else g
theorem flowF_step (n : Nat) (to : List Int) : ∀ (k : Nat) (g : Int), flowF n to (k + 1) g = nxF n to (flowF n to k g)
  | 0, g => rfl
  | k + 1, g => by
    have h := flowF_step n to k (nxF n to g)
    exact h
theorem flowF_bd {n : Nat} {to : List Int} (ht : ∀ x ∈ to, 0 ≤ x ∧ x ≤ n) (hl : to.length = n) : ∀ (k : Nat) (g : Int), 0 ≤ g → g ≤ n → 0 ≤ flowF n to k g ∧ flowF n to k g ≤ n
  | 0, g, h0, h1 => ⟨h0, h1⟩
  | k + 1, g, h0, h1 => by
    rw [flowF_step]
    have ih := flowF_bd ht hl k g h0 h1
    unfold nxF
    split
    · rename_i h
      have hi : (flowF n to k g).toNat < to.length := by omega
      exact ht _ (getD_inl to _ 0 hi)
    · exact ih
theorem pow_countP (d e : Nat) : d * 2 ^ e ≤ 2 ^ (d + e) := by
  have : d ≤ 2 ^ d := Nat.le_of_lt (Nat.lt_two_pow_self)
  rw [Nat.pow_add]
  exact Nat.mul_le_mul_right _ this
theorem flatMap_len {α β : Type} (f : α → List β) (p : α → Bool) (m : Nat) : ∀ (l : List α), (∀ a ∈ l, p a = false → f a = []) → (∀ a ∈ l, (f a).length ≤ m) → (l.flatMap f).length ≤ l.countP p * m
  | [], _, _ => by simp
  | a :: l, h1, h2 => by
    have ih := flatMap_len f p m l (fun b hb => h1 b (by simp [hb])) fun b hb => h2 b (by simp [hb])
    rw [List.flatMap_cons, List.length_append, List.countP_cons]
    by_cases hp : p a = true
    · rw [if_pos hp, Nat.add_mul, Nat.one_mul]
      have := h2 a (by simp)
      omega
    · rw [if_neg hp, h1 a (by simp) (by simpa using hp)]
      simpa using ih
theorem putS_len (n : Nat) (cs : List Ch) : ∀ (k : Nat) (plan to : List Int), (putS n cs k plan to).length ≤ 2 ^ ((List.range cs.length).countP fun i => decide ((to.length : Int) ≤ (chAt cs i).1))
  | 0, plan, to => by
    have := Nat.two_pow_pos ((List.range cs.length).countP fun i => decide ((to.length : Int) ≤ (chAt cs i).1))
    unfold putS; split <;> simp <;> omega
  | k + 1, plan, to => by
    unfold putS
    have h1 := flatMap_len (fun i => if (chAt cs i).1 = (to.length : Int) then putS n cs k (plan ++ [(i : Int)]) (to ++ [(chAt cs i).2.1]) else []) (fun i => decide ((chAt cs i).1 = (to.length : Int))) (2 ^ ((List.range cs.length).countP fun i => decide (((to.length + 1 : Nat) : Int) ≤ (chAt cs i).1))) (List.range cs.length)
      (fun a _ h => by simp at h; simp [h]) (fun a _ => by
        split
        · have := putS_len n cs k (plan ++ [(a : Int)]) (to ++ [(chAt cs a).2.1])
          simpa using this
        · simp)
    refine Nat.le_trans h1 (Nat.le_trans (pow_countP _ _) (Nat.pow_le_pow_right (by decide) ?_))
    have h2 : ∀ l : List Nat, l.countP (fun i => decide ((chAt cs i).1 = (to.length : Int))) + l.countP (fun i => decide (((to.length + 1 : Nat) : Int) ≤ (chAt cs i).1)) = l.countP fun i => decide ((to.length : Int) ≤ (chAt cs i).1) := by
      intro l
      induction l with
      | nil => rfl
      | cons a l ih =>
        simp only [List.countP_cons, decide_eq_true_eq] at ih ⊢
        generalize (chAt cs a).1 = y at *
        split <;> split <;> split <;> omega
    exact Nat.le_of_eq (h2 _)
theorem putS_small {n : Nat} {cs : List Ch} (hc : cs.length ≤ 14) (k : Nat) (plan to : List Int) : (putS n cs k plan to).length ≤ 16384 := by
  refine Nat.le_trans (putS_len n cs k plan to) ?_
  have h1 : ((List.range cs.length).countP fun i => decide ((to.length : Int) ≤ (chAt cs i).1)) ≤ 14 := Nat.le_trans List.countP_le_length (by simpa using hc)
  exact Nat.pow_le_pow_right (by decide) h1
/-- what put answers for the channels from one number on -/
def putFrom (n : Nat) (cs : List Ch) (k i : Nat) (plan to : List Int) : List (List Int) :=
  (List.range' i (cs.length - i)).flatMap fun i => if (chAt cs i).1 = (to.length : Int) then putS n cs k (plan ++ [(i : Int)]) (to ++ [(chAt cs i).2.1]) else []
theorem putFrom_zero (n : Nat) (cs : List Ch) (k : Nat) (plan to : List Int) : putFrom n cs k 0 plan to = putS n cs (k + 1) plan to := by
  unfold putFrom
  rw [putS, Nat.sub_zero, List.range_eq_range']
theorem putFrom_step (n : Nat) (cs : List Ch) (k i : Nat) (plan to : List Int) (h : i < cs.length) :
    putFrom n cs k i plan to = (if (chAt cs i).1 = (to.length : Int) then putS n cs k (plan ++ [(i : Int)]) (to ++ [(chAt cs i).2.1]) else []) ++ putFrom n cs k (i + 1) plan to := by
  unfold putFrom
  rw [show cs.length - i = (cs.length - (i + 1)) + 1 by omega, List.range'_succ, List.flatMap_cons]
theorem putFrom_end (n : Nat) (cs : List Ch) (k : Nat) (plan to : List Int) : putFrom n cs k cs.length plan to = [] := by unfold putFrom; simp
end Go.Proofs.YtadamjleglckpaaGreat.drn

/- Package drain, the walks: slices.Clone at ints; plansFrom, plansOf. -/
namespace Go.Proofs.YtadamjleglckpaaGreat.drn
open Go.RowKit
set_option linter.unusedSimpArgs false
set_option linter.unusedVariables false

/-- appending a whole list of ints to a list of the call's own -/
theorem app_ints (w : World) {ops : Array Oper} {rest : List Oper} {o : Oper} {a : Act} {Q : Exit → Act → World → Prop} (hgd : o.guard = none) (s x : Operand)
    (ho : o.op = .call { callee := .builtin .append, args := #[s, x], argTypes := #[25, 25] }) (base : Nat) (v : Value) (ys xs : List Int) (hs : a.eval s = v)
    (hown : w.ownsRow base 3 1 v ys.length (flatI ys)) (ad : Addr) (c : Nat) (hx : a.eval x = .slice (some ad) xs.length c) (hr : RowV w (some ad) (flatI xs))
    (hl : ys.length + xs.length ≤ 1000000) (hbase : base ≤ w.heap.size)
    (h : ∀ v' w', w'.ownsRow base 3 1 v' (ys ++ xs).length (flatI (ys ++ xs)) → w.grownBy w' v.ownBlock → wpList Tryz.prog ops Q rest (a.put o.dst v') w') :
    wpList Tryz.prog ops Q (o :: rest) a w := by
  obtain ⟨i0, hi, hz0, hz1, hz2⟩ := info_parts infoI
  have happ : flatI (ys ++ xs) = flatI ys ++ flatI xs := by simp [flatI]
  refine wpList_append_own w hgd s x 25 ho base 3 i0 _ 1 8 Tryz.underlying25 hi hz0 hz1 hz2 rfl (by decide) v ys.length (flatI ys) hs hown ad xs.length c (flatI xs) hx (by rw [flatI_length]; omega) ?_ ?_ (by unfold maxLen; omega) (by omega) hbase ?_
  · intro j u hj
    rcases hr with h0 | ⟨b, off, e, _, hc⟩
    · rw [h0] at hj; simp at hj
    · simp only [Option.some.injEq] at e
      subst e
      rw [addr_add_off]
      exact hc j u hj
  · intro u hu
    unfold flatI at hu
    obtain ⟨x, _, rfl⟩ := List.mem_map.1 hu
    rfl
  · intro v' w' h1 h2 _
    refine h v' w' ?_ h2
    rw [happ, List.length_append]
    exact h1
theorem eqNilI (w : World) (a : Option Addr) (n c : Nat) : (binOp .eql 25 (.slice a n c) (.slice none 0 0)).run Tryz.prog w = .ok (.bool a.isNone) w := Lib.run_eql_slice_nil w 25 3 a n c 0 0 Tryz.underlying25
attribute [local go_sem] eqNilI
set_option maxRecDepth 100000 in
theorem cloneI_any (q : Option Addr) (c : Nat) (xs : List Int) (w : World) (hr : RowV w q (flatI xs)) (hq : q = none → c = 0) (hl : xs.length ≤ 1000) :
    Calls Tryz.prog 81 #[.slice q xs.length c] w (RetV w 3 1 xs.length (flatI xs)) := by
  cases q with
  | none =>
    have hx0 : xs = [] := by
      rcases hr with h0 | ⟨b, off, e, _⟩
      · simpa [flatI] using h0
      · cases e
    subst hx0
    have hc := hq rfl
    subst hc
    clear hq hr
    go_enter Tryz.func81, Tryz.ntmps81
    go_wp2
    go_ret
    exact ⟨_, rfl, World.ownsRow_nil _ _ _ _, Below.refl _ _⟩
  | some ad =>
    have hb0 : Below w.heap.size w (w.alloc (.cells #[] 3)) := (Below.refl _ _).alloc (Nat.le_refl _) _
    have hr' := hr.below (Nat.le_refl _) hb0
    have hown : (w.alloc (.cells #[] 3)).ownsRow w.heap.size 3 1 (.slice (some ⟨w.heap.size, 0, none⟩) 0 0) ([] : List Int).length (flatI []) :=
      World.ownsRow_made (base := w.heap.size) (e := 3) (size := 1) w #[] 0 (Nat.le_refl _) (by decide) rfl
    have HR := Lib.hid hr'
    have HO := Lib.hid hown
    have HB := Lib.hid hb0
    clear hr hr' hown hb0 hq
    go_enter Tryz.func81, Tryz.ntmps81
    go_wp2_with (at_builtin; refine app_ints _ rfl (.tmp 5) (.tmp 6) rfl w.heap.size _ [] xs rfl HO.out ad c rfl HR.out (by simp; omega) (by simp) ?_; intro v' w' hown' hgrow)
    have hb := grown_below HO.out (by simp) hgrow
    go_ret
    exact ⟨v', rfl, hown', HB.out.trans hb⟩

/-- what plansFrom answers, the list being begun -/
def begunS (n : Nat) (cs : List Ch) (lo : Nat) (b : List Int) (s : Nat) : List (List Int) :=
  if s = allS n then (if wetS n (chosenS cs b) = allS n then [b] else []) else plansFrom n cs (cs.length - lo) lo b s
theorem plansFrom_step (n : Nat) (cs : List Ch) (k i : Nat) (b : List Int) (s : Nat) (h : k + 1 + i = cs.length) :
    plansFrom n cs (k + 1) i b s = (if inS s (cs.getD i (0, 0, 0)).1 then [] else begunS n cs (i + 1) (b ++ [(i : Int)]) (s ||| oneS (cs.getD i (0, 0, 0)).1.toNat)) ++ plansFrom n cs k (i + 1) b s := by
  rw [plansFrom, begunS, show cs.length - (i + 1) = k by omega]
  rfl
theorem plansFrom_len (n : Nat) (cs : List Ch) : ∀ (k i : Nat) (b : List Int) (s : Nat), (plansFrom n cs k i b s).length ≤ 2 ^ k
  | 0, _, _, _ => by simp [plansFrom]
  | k + 1, i, b, s => by
    have h1 := plansFrom_len n cs k (i + 1) b s
    have h2 := plansFrom_len n cs k (i + 1) (b ++ [(i : Int)]) (s ||| 1 <<< (cs.getD i (0, 0, 0)).1.toNat)
    have h3 : 1 ≤ 2 ^ k := Nat.one_le_two_pow
    rw [plansFrom, List.length_append, Nat.pow_succ]
    split
    · simp; omega
    · split
      · split <;> simp <;> omega
      · omega
theorem begunS_ne {n : Nat} {cs : List Ch} {lo : Nat} {b : List Int} {s : Nat} (hb : b ≠ []) : ∀ l ∈ begunS n cs lo b s, l ≠ [] := by
  intro l hl
  unfold begunS at hl
  split at hl
  · split at hl
    · simp at hl; rw [hl]; exact hb
    · cases hl
  · obtain ⟨x, r, rfl, _⟩ := plansFrom_head n cs _ _ _ _ l hl
    simp
/-- what has been begun -/
structure Begun (cs : List Ch) (b : List Int) (lo : Nat) : Prop where
  inr : InR cs b
  short : b.length ≤ lo
  fit : lo ≤ cs.length
  from_ : (b = [] ∧ lo = 0) ∨ ∃ b0 x, b = b0 ++ [x] ∧ (lo : Int) = x + 1
theorem Begun.snoc {cs : List Ch} {b : List Int} {lo i : Nat} (h : Begun cs b lo) (h1 : lo ≤ i) (h2 : i < cs.length) : Begun cs (b ++ [(i : Int)]) (i + 1) := by
  obtain ⟨a, c, d, _⟩ := h
  refine ⟨fun x hx => ?_, by simp; omega, by omega, .inr ⟨b, i, rfl, by omega⟩⟩
  rcases List.mem_append.1 hx with hx | hx
  · exact a x hx
  · simp at hx; subst hx; exact ⟨by omega, by omega⟩
theorem inr_len {cs : List Ch} {b : List Int} (h : InR cs b) (n : Nat) (hc : Chs n cs) (hb : b.length ≤ 14) : Chs n (chosenS cs b) := by
  refine ⟨hc.n1, hc.n6, by simpa [chosenS] using hb, fun c hm => ?_⟩
  obtain ⟨i, hi, rfl⟩ := List.mem_map.1 hm
  exact getD_ok hc.ok (by have := h i hi; omega)

set_option maxRecDepth 100000 in
set_option maxHeartbeats 4000000 in
theorem plansFrom_any (n : Nat) (q : Option Addr) (cap : Nat) (cs : List Ch) (hc : Chs n cs) : ∀ (k : Nat) (q3 : Option Addr) (c3 : Nat) (q2 : Option Addr) (c2 lo s : Nat) (b : List Int) (w : World), cs.length - lo = k → Begun cs b lo → s < 2 ^ n →
    RowV w q3 (flatC n cs) → RowV w q2 (flatI b) → (q2 = none → c2 = 0) →
    Calls Tryz.prog 131 #[hillV n q cs.length cap, .slice q3 cs.length c3, .slice q2 b.length c2, .int .u64 s] w (ManyL w q2 (begunS n cs lo b s)) := by
  intro k
  induction k using Nat.strongRecOn with
  | _ k ih =>
    intro q3 c3 q2 c2 lo s b w hk hbg hs hr3 hr2 hq2
    unfold hillV at *
    have hcm := hc.many
    have hn6 := hc.n6
    have HIH := Lib.hid ih
    have HBG := Lib.hid hbg
    have HS := Lib.hid hs
    have HC := Lib.hid hc
    have HQ2 := Lib.hid hq2
    have hb14 : b.length ≤ 14 := by have := hbg.short; have := hbg.fit; omega
    have hb0 : Below w.heap.size w (w.alloc (.cells #[.int .i64 n, .slice q cs.length cap] 24)) := (Below.refl _ _).alloc (Nat.le_refl _) _
    have hal := allOf_any n q cs.length cap (w.alloc (.cells #[.int .i64 n, .slice q cs.length cap] 24)) hn6
    unfold hillV at hal
    have HAL := Lib.hid hal
    have HB := Lib.hid hb0
    have HR3 := Lib.hid hr3
    have HR2 := Lib.hid hr2
    by_cases hfull : s = allS n
    · have hful2 : ((s : Int) == ((allS n : Nat) : Int)) = true := by simp [hfull]
      have hans : begunS n cs lo b s = if wetS n (chosenS cs b) = allS n then [b] else [] := by rw [begunS, if_pos hfull]
      have hchs := inr_len hbg.inr n hc hb14
      have HCH := Lib.hid hchs
      have hsw : (((wetS n (chosenS cs b) : Nat) : Int) != (s : Int)) = !decide (wetS n (chosenS cs b) = allS n) := by
        rw [hfull]
        by_cases hw : wetS n (chosenS cs b) = allS n
        · simp [hw]
        · have : (wetS n (chosenS cs b) : Int) ≠ (allS n : Int) := by omega
          simp [hw, this]
      by_cases hw : wetS n (chosenS cs b) = allS n
      · rw [hans, if_pos hw]
        have hsw2 : (((wetS n (chosenS cs b) : Nat) : Int) != (s : Int)) = false := by rw [hsw]; simp [hw]
        clear hans hw hsw hchs hfull ih hbg hs hc hq2 hb0 hal hr3 hr2
        go_enter Tryz.func131, Tryz.ntmps131
        go_wp2_with (first
          | (go_at_call 51; refine HAL.out.mono ?_; rintro e w1 ⟨rfl, hb1⟩; have hac1 : Below w.heap.size w w1 := HB.out.on hb1)
          | (go_at_call 91; refine (chosen_any n q3 c3 cs q2 c2 b w1 (HR3.out.below (Nat.le_refl _) hac1) (HR2.out.below (Nat.le_refl _) hac1) HBG.out.inr (by omega) hcm).mono ?_; rintro e w4 ⟨v4, rfl, hown4, hb4⟩; obtain ⟨q4, c4, rfl, hrow4, _, _⟩ := rowV_of_owns hown4 (by intro h; rw [List.length_eq_zero_iff] at h; rw [h]; rfl); have hac4 : Below w.heap.size w w4 := hac1.on hb4)
          | (go_at_call 52; refine (drained_any n q4 c4 _ w4 HCH.out hrow4).mono ?_; rintro e w5 ⟨rfl, hb5⟩; have hac5 : Below w.heap.size w w5 := hac4.on hb5))
        have hbA : Below w5.heap.size w5 (w5.alloc (.cells #[.slice q2 b.length c2] 25)) := (Below.refl _ _).alloc (Nat.le_refl _) _
        go_ret
        refine ⟨some ⟨w5.heap.size, 0, none⟩, 1, [.slice q2 b.length c2], rfl, by simp, .inr ⟨w5.heap.size, 0, rfl, by simp, fun i v hi => ?_⟩, fun a ha => ?_, ⟨⟨q2, c2, rfl, HR2.out.below (Nat.le_refl _) (hac5.on hbA), HQ2.out, .inl rfl⟩, trivial⟩, hac5.on hbA, Nat.le_refl _⟩
        · obtain rfl : i = 0 := by
            have := (List.getElem?_eq_some_iff.1 hi).1
            simpa using this
          simp at hi
          subst hi
          simp
        · injection ha with ha
          subst ha
          exact ⟨hac5.size, by simp⟩
      · rw [hans, if_neg hw]
        have hsw2 : (((wetS n (chosenS cs b) : Nat) : Int) != (s : Int)) = true := by rw [hsw]; simp [hw]
        clear hans hw hsw hchs hfull ih hbg hs hc hq2 hb0 hal hr3 hr2
        go_enter Tryz.func131, Tryz.ntmps131
        go_wp2_with (first
          | (go_at_call 51; refine HAL.out.mono ?_; rintro e w1 ⟨rfl, hb1⟩; have hac1 : Below w.heap.size w w1 := HB.out.on hb1)
          | (go_at_call 91; refine (chosen_any n q3 c3 cs q2 c2 b w1 (HR3.out.below (Nat.le_refl _) hac1) (HR2.out.below (Nat.le_refl _) hac1) HBG.out.inr (by omega) hcm).mono ?_; rintro e w4 ⟨v4, rfl, hown4, hb4⟩; obtain ⟨q4, c4, rfl, hrow4, _, _⟩ := rowV_of_owns hown4 (by intro h; rw [List.length_eq_zero_iff] at h; rw [h]; rfl); have hac4 : Below w.heap.size w w4 := hac1.on hb4)
          | (go_at_call 52; refine (drained_any n q4 c4 _ w4 HCH.out hrow4).mono ?_; rintro e w5 ⟨rfl, hb5⟩; have hac5 : Below w.heap.size w w5 := hac4.on hb5))
        go_ret
        exact ⟨none, 0, [], rfl, fun _ => ⟨rfl, rfl⟩, .inl rfl, by simp, trivial, hac5, Nat.le_refl _⟩
    · have hful2 : ((s : Int) == ((allS n : Nat) : Int)) = false := beq_eq_false_iff_ne.2 (by omega)
      have hans : begunS n cs lo b s = plansFrom n cs (cs.length - lo) lo b s := by rw [begunS, if_neg hfull]
      rw [hans]
      have HK := Lib.hid hk
      clear hans hfull ih hs hc hq2 hb0 hal hk
      rcases hbg.from_ with ⟨hb, hlo⟩ | ⟨b0, x, hb, hlo⟩
      · have hz2 : decide (0 < b.length) = false := by rw [hb]; rfl
        have hnxt : ((lo + 0 : Nat) : Int) = 0 := by omega
        have NXT := Lib.hid hnxt
        clear hnxt
        have hr2' := hr2
        clear hb hlo hbg
        go_enter Tryz.func131, Tryz.ntmps131
        go_wp2_with (go_at_call 51; refine HAL.out.mono ?_; rintro e w1 ⟨rfl, hb1⟩; obtain ⟨hc1, hf1⟩ := bcell hb1; have hac1 : Below w.heap.size w w1 := HB.out.on hb1; have hz1 : w.heap.size < w1.heap.size := (by have := hb1.size; simp at this; omega))
        obtain ⟨d0, d1⟩ : w1.cell? ⟨w.heap.size, 0, none⟩ = some (.int .i64 n) ∧ w1.cell? ⟨w.heap.size, 1, none⟩ = some (.slice q cs.length cap) := ⟨by rw [hc1 _ _ (by simp)]; simp, by rw [hc1 _ _ (by simp)]; simp⟩
        have hr3w := HR3.out.below (Nat.le_refl _) hac1
        have hr2w := HR2.out.below (Nat.le_refl _) hac1
        clear hz2 hful2 hc1 hf1 hb1 hr3 hr2 hr2'
        go_loopw [10, 11] (fun v i wr => ∃ t : Nat, lo + t ≤ cs.length ∧ i = .int .i64 ((lo + t : Nat) : Int) ∧ ∃ ls, ls ++ plansFrom n cs (cs.length - (lo + t)) (lo + t) b s = plansFrom n cs (cs.length - lo) lo b s ∧ OutL w1 wr v ls) (fun _ i _ => cs.length - (intOf i).toNat)
        case atStart => exact ⟨0, HBG.out.fit, by rw [NXT.out], [], rfl, [], World.ownsRow_nil _ _ _ _, fun _ => rfl, trivial, Below.refl _ _⟩
        case round =>
          obtain ⟨t, ht, rfl, ls, hls, vs, ho, hn0, hin, hbel⟩ := hrel
          obtain ⟨i, hi⟩ : ∃ i, lo + t = i := ⟨_, rfl⟩
          rw [hi] at ht hls ⊢
          have HI := Lib.hid hi
          clear hi
          have hzr := hbel.size
          by_cases htm : i < cs.length
          · obtain ⟨m, hm⟩ : ∃ m, cs.length - i = m + 1 := ⟨cs.length - i - 1, by omega⟩
            have hst := plansFrom_step n cs m i b s (by omega)
            rw [hm, hst] at hls
            obtain ⟨b3, off3, rfl, hb3z, g1, g2, g3⟩ := rowC_at hr3w htm (Nat.le_refl _) hbel
            have hok := getD_ok HC.out.ok htm
            generalize cs.getD i (0, 0, 0) = c at g1 g2 g3 hok hls hst
            obtain ⟨x, y, z⟩ := c
            obtain ⟨⟨x0, x1⟩, _⟩ := hok
            dsimp only at *
            obtain ⟨x, rfl⟩ : ∃ j : Nat, x = j := ⟨x.toNat, by omega⟩
            have hx6 : x < 6 := by omega
            have hsl := HS.out
            have hs64 := pow_64 hn6 hsl
            have hoo := oneS_lt hx6
            have hor := or_u s (oneS x) (by omega) (by omega)
            have hsx : s ||| oneS x < 2 ^ n := Nat.or_lt_two_pow hsl (by unfold oneS; rw [Nat.one_shiftLeft]; exact Nat.pow_lt_pow_right (by decide) (by omega))
            rw [Int.toNat_natCast, inS_nat] at hls
            have hxi : (i : Int) < (cs.length : Int) := by omega
            have HM := Lib.hid hm
            have HOR := Lib.hid hor
            have HSX := Lib.hid hsx
            have HO := Lib.hid ho
            have HN0 := Lib.hid hn0
            have HIN := Lib.hid hin
            have hb3w : b3 < wr.heap.size := Nat.lt_of_lt_of_le hb3z hzr
            clear hm hor hsx ho hn0 hin hst hsl g2 g3 x0 x1
            cases hbit : s.testBit x with
            | true =>
              rw [hbit] at hls
              simp only [if_true, List.nil_append] at hls
              have HLS := Lib.hid hls
              have HBIT := Lib.hid hbit
              clear hls hbit
              go_wp2_with (go_at_call 89; refine (in_any x s _ hx6 hs64).mono ?_; rintro e w2 ⟨hin, rfl⟩; rw [HBIT.out] at hin; subst hin)
              go_roundw
              case rel => exact ⟨t + 1, by have := HI.out; omega, by have := HI.out; go_num, ls, by have h1 := HI.out; have h2 := HM.out; have h3 := HLS.out; rw [show cs.length - (lo + (t + 1)) = m by omega, show lo + (t + 1) = i + 1 by omega]; exact h3, vs, HO.out, HN0.out, HIN.out, hbel⟩
              case measure => have := HI.out; simp [intOf]; omega
            | false =>
              rw [hbit, ← List.append_assoc] at hls
              simp only [Bool.false_eq_true, if_false] at hls
              have hlb := congrArg List.length hls
              have htot := plansFrom_len n cs (cs.length - lo) lo b s
              rw [← hlb, List.length_append, List.length_append] at htot
              have hpw : 2 ^ (cs.length - lo) ≤ 16384 := Nat.pow_le_pow_right (by decide) (show cs.length - lo ≤ 14 by omega)
              have hbd : ls.length + (begunS n cs (i + 1) (b ++ [(i : Int)]) (s ||| oneS x)).length ≤ 16384 := by omega
              have hvl := HIN.out.len
              have hdes : s ||| oneS x < 2 ^ n := HSX.out
              have hbg2 := HBG.out.snoc (i := i) (by have := HI.out; omega) htm
              have hcall := fun W q5 c5 h1 h2 h3 => HIH.out m (by have := HM.out; have := HK.out; have := HI.out; omega) (some ⟨b3, off3, none⟩) c3 q5 c5 (i + 1) (s ||| oneS x) (b ++ [(i : Int)]) W (by have := HM.out; omega) hbg2 HSX.out h1 h2 h3
              have hkne : ∀ l ∈ begunS n cs (i + 1) (b ++ [(i : Int)]) (s ||| oneS x), l ≠ [] := begunS_ne (by simp)
              obtain ⟨ks, hks⟩ : ∃ ks, begunS n cs (i + 1) (b ++ [(i : Int)]) (s ||| oneS x) = ks := ⟨_, rfl⟩
              simp only [hks] at hcall hbd hkne hls
              rw [show (b ++ [(i : Int)]).length = b.length + 1 by simp] at hcall
              have HLS := Lib.hid hls
              have HBIT := Lib.hid hbit
              have HCALL := Lib.hid hcall
              have HKNE := Lib.hid hkne
              have HBD := Lib.hid hbd
              have hor := HOR.out
              have f0 := (hbel.cell (p := ⟨w.heap.size, 0, none⟩) hz1).trans d0
              have f1 := (hbel.cell (p := ⟨w.heap.size, 1, none⟩) hz1).trans d1
              have hzw : w.heap.size < wr.heap.size := Nat.lt_of_lt_of_le hz1 hzr
              have hva : some w.heap.size ≠ u10.ownBlock := fun e => by have := (HO.out.lt _ e.symm).1; omega
              clear hls hbit hlb htot hpw hbd hdes hbg2 hcall hkne hks
              go_upto_region 15 with (first
                | (go_at_call 89; refine (in_any x s _ hx6 hs64).mono ?_; rintro e w2 ⟨hin, rfl⟩; rw [HBIT.out] at hin; subst hin)
                | (go_at_call 81; refine (cloneI_any q2 c2 b _ (hr2w.below (Nat.le_refl _) hbel) HQ2.out (by omega)).mono ?_; rintro e wC ⟨vC, rfl, hownC, hbC⟩)
                | (at_builtin; refine app_int _ rfl (.tmp 53) (.tmp 55) rfl wr.heap.size _ b (i : Int) rfl (hownC.alloc _) wC.heap.size 1 rfl (by simp) (by omega) (by have := hbC.size; simp; omega) ?_; intro v5 w5 hown5 hgr5 hbk5; have hb5 : Below wr.heap.size wr w5 := hbC.trans (((Below.refl _ _).alloc hbC.size _).trans (grown_below (hownC.alloc _) (by have := hbC.size; simp; omega) hgr5))))
              obtain ⟨q5, c5, rfl, hrow5, hq5, hqb5⟩ := rowV_of_owns hown5 (by intro h; simp at h)
              have hac5 : Below w1.heap.size w1 w5 := hbel.on hb5
              have e0 := (hb5.cell (p := ⟨w.heap.size, 0, none⟩) hzw).trans f0
              have e1 := (hb5.cell (p := ⟨w.heap.size, 1, none⟩) hzw).trans f1
              have HO5 := Lib.hid (owns_below HO.out (Nat.le_refl _) hb5)
              have hz5 : w.heap.size < w5.heap.size := Nat.lt_of_lt_of_le hzw hb5.size
              rw [show (b ++ [(i : Int)]).length = b.length + 1 by simp]
              clear hownC hown5 hgr5 hbk5 hbC f0 f1
              go_region_held3 (fun W => W.cell? ⟨w.heap.size, 0, none⟩ = some (.int .i64 n) ∧ W.cell? ⟨w.heap.size, 1, none⟩ = some (.slice q cs.length cap)) (first | exact ⟨e0, e1⟩ | exact ⟨j0, j1⟩ | exact ⟨l0, l1⟩ | go_keep)
                (first
                | (go_at_call 90; refine (alone_any x _ hx6).mono ?_; rintro e w6 ⟨rfl, rfl⟩)
                | (go_at_call 131; refine (HCALL.out _ q5 c5 (hr3w.below (Nat.le_refl _) hac5.drew) (hrow5.below (Nat.le_refl _) (Below.refl _ _).drew) hq5).mono ?_; rintro e w7 ⟨q7, c7, vs7, rfl, hnil7, hrow7, hqb7, hin7, hb7', _⟩; have hb7 : Below w5.heap.size w5 w7 := (((Below.refl _ _).drew).on hb7'); have j0 := (hb7.cell (p := ⟨w.heap.size, 0, none⟩) hz5).trans e0; have j1 := (hb7.cell (p := ⟨w.heap.size, 1, none⟩) hz5).trans e1; have hz7 : w.heap.size < w7.heap.size := Nat.lt_of_lt_of_le hz5 hb7.size)
                | (refine step_lists _ (by rfl) _ _ (by rfl) w1.heap.size _ vs vs7 (by rfl) (owns_below HO5.out (Nat.le_refl _) hb7) q7 c7 (by rfl) hnil7 hrow7 (InL.all (by rintro u l ⟨q, c, rfl, _⟩; rfl) hin7) (by have := hin7.len; have := HBD.out; omega) (by have := hac5.size; have := hb7.size; omega) ?_; intro v8 w8 hown8 hgr8 hbk8 hsame8; have l0 := (hgr8.cell_far ⟨w.heap.size, 0, none⟩ hz7 hva).trans j0; have l1 := (hgr8.cell_far ⟨w.heap.size, 1, none⟩ hz7 hva).trans j1)
                | fail)
              have hstep := OutL.step (b := b ++ [(i : Int)]) HO.out HN0.out HIN.out hbel hb5 hqb5 (by simp) hin7 HKNE.out hb7 hown8 hgr8 hbk8 hsame8
              have HSTEP := Lib.hid hstep
              clear hstep hown8 hgr8 hbk8 hsame8 hin7 hrow7 hb7 hb5 e0 e1 j0 j1 l0 l1
              go_wp2
              go_roundw
              case rel => exact ⟨t + 1, by have := HI.out; omega, by have := HI.out; go_num, _, by have h1 := HI.out; have h2 := HM.out; have h3 := HLS.out; rw [show cs.length - (lo + (t + 1)) = m by omega, show lo + (t + 1) = i + 1 by omega]; exact h3, HSTEP.out⟩
              case measure => have := HI.out; simp [intOf]; omega
          · obtain rfl : i = cs.length := by omega
            have hls2 : ls = plansFrom n cs (cs.length - lo) lo b s := by
              rw [Nat.sub_self] at hls
              simpa [plansFrom] using hls
            obtain ⟨q9, c9, e9, hr9, _, hqb9⟩ := rowV_of_owns ho (by intro h; exact List.length_eq_zero_iff.1 h)
            have hno : vs = [] → q9 = none ∧ c9 = 0 := by
              intro h
              have := hn0 h
              rw [this] at e9
              injection e9 with e1 _ e2
              exact ⟨e1.symm, e2.symm⟩
            have hin9 : InL (NewI wr w.heap.size q2) vs ls := InL.mono (fun v l ⟨q, c, e, hr, hn, hx⟩ => ⟨q, c, e, hr, hn, .inr fun a ha => by have := (hx a ha).1; omega⟩) hin
            rw [hls2] at hin9
            have H9 := Lib.hid hin9
            have HR9 := Lib.hid hr9
            have HNO := Lib.hid hno
            have HQ9 := Lib.hid hqb9
            subst e9
            have HCAP := Lib.hid (own_cap ho)
            clear ho hn0 hin hls hls2 hr9 hno hin9 hqb9
            go_wp2
            go_ret
            exact ⟨q9, c9, vs, rfl, HNO.out, HR9.out, fun a ha => ⟨by have := (HQ9.out a ha).1; omega, (HQ9.out a ha).2⟩, H9.out, hac1.on hbel, HCAP.out⟩
      · obtain ⟨hbp, hlast⟩ := last_at hb
        have hz2 : decide (0 < b.length) = true := by simp; omega
        have hw1 : IntKind.i64.wrap ((b.length : Int) - 1) = ((b.length - 1 : Nat) : Int) := by rw [IntWalk.i64_in _ ⟨by omega, by omega⟩]; omega
        have hfit := hbg.fit
        have hw2 : IntKind.i64.wrap (x + 1) = ((lo : Nat) : Int) := by rw [IntWalk.i64_in _ ⟨by omega, by omega⟩]; omega
        have hnxt : ((lo + 0 : Nat) : Int) = ((lo : Nat) : Int) := by omega
        have NXT := Lib.hid hnxt
        obtain ⟨bb, off, hqe, hbz, hcell⟩ := rowI_at hr2 (show b.length - 1 < b.length by omega) (Nat.le_refl _) (Below.refl _ w)
        subst hqe
        rw [hlast] at hcell
        have hlt1 : ((b.length - 1 : Nat) : Int) < (b.length : Int) := by omega
        clear hb hlast hlo hbg hnxt hfit
        go_enter Tryz.func131, Tryz.ntmps131
        go_wp2_with (go_at_call 51; refine HAL.out.mono ?_; rintro e w1 ⟨rfl, hb1⟩; obtain ⟨hc1, hf1⟩ := bcell hb1; have hac1 : Below w.heap.size w w1 := HB.out.on hb1; have hz1 : w.heap.size < w1.heap.size := (by have := hb1.size; simp at this; omega); have hcell2 := (hac1.cell (p := ⟨bb, off + (b.length - 1), none⟩) hbz).trans hcell)
        obtain ⟨d0, d1⟩ : w1.cell? ⟨w.heap.size, 0, none⟩ = some (.int .i64 n) ∧ w1.cell? ⟨w.heap.size, 1, none⟩ = some (.slice q cs.length cap) := ⟨by rw [hc1 _ _ (by simp)]; simp, by rw [hc1 _ _ (by simp)]; simp⟩
        have hr3w := HR3.out.below (Nat.le_refl _) hac1
        have hr2w := HR2.out.below (Nat.le_refl _) hac1
        clear hz2 hful2 hc1 hf1 hb1 hr3 hr2 hw1 hw2 hcell hcell2 hlt1
        go_loopw [10, 11] (fun v i wr => ∃ t : Nat, lo + t ≤ cs.length ∧ i = .int .i64 ((lo + t : Nat) : Int) ∧ ∃ ls, ls ++ plansFrom n cs (cs.length - (lo + t)) (lo + t) b s = plansFrom n cs (cs.length - lo) lo b s ∧ OutL w1 wr v ls) (fun _ i _ => cs.length - (intOf i).toNat)
        case atStart => exact ⟨0, HBG.out.fit, by rw [NXT.out], [], rfl, [], World.ownsRow_nil _ _ _ _, fun _ => rfl, trivial, Below.refl _ _⟩
        case round =>
          obtain ⟨t, ht, rfl, ls, hls, vs, ho, hn0, hin, hbel⟩ := hrel
          obtain ⟨i, hi⟩ : ∃ i, lo + t = i := ⟨_, rfl⟩
          rw [hi] at ht hls ⊢
          have HI := Lib.hid hi
          clear hi
          have hzr := hbel.size
          by_cases htm : i < cs.length
          · obtain ⟨m, hm⟩ : ∃ m, cs.length - i = m + 1 := ⟨cs.length - i - 1, by omega⟩
            have hst := plansFrom_step n cs m i b s (by omega)
            rw [hm, hst] at hls
            obtain ⟨b3, off3, rfl, hb3z, g1, g2, g3⟩ := rowC_at hr3w htm (Nat.le_refl _) hbel
            have hok := getD_ok HC.out.ok htm
            generalize cs.getD i (0, 0, 0) = c at g1 g2 g3 hok hls hst
            obtain ⟨x, y, z⟩ := c
            obtain ⟨⟨x0, x1⟩, _⟩ := hok
            dsimp only at *
            obtain ⟨x, rfl⟩ : ∃ j : Nat, x = j := ⟨x.toNat, by omega⟩
            have hx6 : x < 6 := by omega
            have hsl := HS.out
            have hs64 := pow_64 hn6 hsl
            have hoo := oneS_lt hx6
            have hor := or_u s (oneS x) (by omega) (by omega)
            have hsx : s ||| oneS x < 2 ^ n := Nat.or_lt_two_pow hsl (by unfold oneS; rw [Nat.one_shiftLeft]; exact Nat.pow_lt_pow_right (by decide) (by omega))
            rw [Int.toNat_natCast, inS_nat] at hls
            have hxi : (i : Int) < (cs.length : Int) := by omega
            have HM := Lib.hid hm
            have HOR := Lib.hid hor
            have HSX := Lib.hid hsx
            have HO := Lib.hid ho
            have HN0 := Lib.hid hn0
            have HIN := Lib.hid hin
            have hb3w : b3 < wr.heap.size := Nat.lt_of_lt_of_le hb3z hzr
            clear hm hor hsx ho hn0 hin hst hsl g2 g3 x0 x1
            cases hbit : s.testBit x with
            | true =>
              rw [hbit] at hls
              simp only [if_true, List.nil_append] at hls
              have HLS := Lib.hid hls
              have HBIT := Lib.hid hbit
              clear hls hbit
              go_wp2_with (go_at_call 89; refine (in_any x s _ hx6 hs64).mono ?_; rintro e w2 ⟨hin, rfl⟩; rw [HBIT.out] at hin; subst hin)
              go_roundw
              case rel => exact ⟨t + 1, by have := HI.out; omega, by have := HI.out; go_num, ls, by have h1 := HI.out; have h2 := HM.out; have h3 := HLS.out; rw [show cs.length - (lo + (t + 1)) = m by omega, show lo + (t + 1) = i + 1 by omega]; exact h3, vs, HO.out, HN0.out, HIN.out, hbel⟩
              case measure => have := HI.out; simp [intOf]; omega
            | false =>
              rw [hbit, ← List.append_assoc] at hls
              simp only [Bool.false_eq_true, if_false] at hls
              have hlb := congrArg List.length hls
              have htot := plansFrom_len n cs (cs.length - lo) lo b s
              rw [← hlb, List.length_append, List.length_append] at htot
              have hpw : 2 ^ (cs.length - lo) ≤ 16384 := Nat.pow_le_pow_right (by decide) (show cs.length - lo ≤ 14 by omega)
              have hbd : ls.length + (begunS n cs (i + 1) (b ++ [(i : Int)]) (s ||| oneS x)).length ≤ 16384 := by omega
              have hvl := HIN.out.len
              have hdes : s ||| oneS x < 2 ^ n := HSX.out
              have hbg2 := HBG.out.snoc (i := i) (by have := HI.out; omega) htm
              have hcall := fun W q5 c5 h1 h2 h3 => HIH.out m (by have := HM.out; have := HK.out; have := HI.out; omega) (some ⟨b3, off3, none⟩) c3 q5 c5 (i + 1) (s ||| oneS x) (b ++ [(i : Int)]) W (by have := HM.out; omega) hbg2 HSX.out h1 h2 h3
              have hkne : ∀ l ∈ begunS n cs (i + 1) (b ++ [(i : Int)]) (s ||| oneS x), l ≠ [] := begunS_ne (by simp)
              obtain ⟨ks, hks⟩ : ∃ ks, begunS n cs (i + 1) (b ++ [(i : Int)]) (s ||| oneS x) = ks := ⟨_, rfl⟩
              simp only [hks] at hcall hbd hkne hls
              rw [show (b ++ [(i : Int)]).length = b.length + 1 by simp] at hcall
              have HLS := Lib.hid hls
              have HBIT := Lib.hid hbit
              have HCALL := Lib.hid hcall
              have HKNE := Lib.hid hkne
              have HBD := Lib.hid hbd
              have hor := HOR.out
              have f0 := (hbel.cell (p := ⟨w.heap.size, 0, none⟩) hz1).trans d0
              have f1 := (hbel.cell (p := ⟨w.heap.size, 1, none⟩) hz1).trans d1
              have hzw : w.heap.size < wr.heap.size := Nat.lt_of_lt_of_le hz1 hzr
              have hva : some w.heap.size ≠ u10.ownBlock := fun e => by have := (HO.out.lt _ e.symm).1; omega
              clear hls hbit hlb htot hpw hbd hdes hbg2 hcall hkne hks
              go_upto_region 15 with (first
                | (go_at_call 89; refine (in_any x s _ hx6 hs64).mono ?_; rintro e w2 ⟨hin, rfl⟩; rw [HBIT.out] at hin; subst hin)
                | (go_at_call 81; refine (cloneI_any (some ⟨bb, off, none⟩) c2 b _ (hr2w.below (Nat.le_refl _) hbel) HQ2.out (by omega)).mono ?_; rintro e wC ⟨vC, rfl, hownC, hbC⟩)
                | (at_builtin; refine app_int _ rfl (.tmp 53) (.tmp 55) rfl wr.heap.size _ b (i : Int) rfl (hownC.alloc _) wC.heap.size 1 rfl (by simp) (by omega) (by have := hbC.size; simp; omega) ?_; intro v5 w5 hown5 hgr5 hbk5; have hb5 : Below wr.heap.size wr w5 := hbC.trans (((Below.refl _ _).alloc hbC.size _).trans (grown_below (hownC.alloc _) (by have := hbC.size; simp; omega) hgr5))))
              obtain ⟨q5, c5, rfl, hrow5, hq5, hqb5⟩ := rowV_of_owns hown5 (by intro h; simp at h)
              have hac5 : Below w1.heap.size w1 w5 := hbel.on hb5
              have e0 := (hb5.cell (p := ⟨w.heap.size, 0, none⟩) hzw).trans f0
              have e1 := (hb5.cell (p := ⟨w.heap.size, 1, none⟩) hzw).trans f1
              have HO5 := Lib.hid (owns_below HO.out (Nat.le_refl _) hb5)
              have hz5 : w.heap.size < w5.heap.size := Nat.lt_of_lt_of_le hzw hb5.size
              rw [show (b ++ [(i : Int)]).length = b.length + 1 by simp]
              clear hownC hown5 hgr5 hbk5 hbC f0 f1
              go_region_held3 (fun W => W.cell? ⟨w.heap.size, 0, none⟩ = some (.int .i64 n) ∧ W.cell? ⟨w.heap.size, 1, none⟩ = some (.slice q cs.length cap)) (first | exact ⟨e0, e1⟩ | exact ⟨j0, j1⟩ | exact ⟨l0, l1⟩ | go_keep)
                (first
                | (go_at_call 90; refine (alone_any x _ hx6).mono ?_; rintro e w6 ⟨rfl, rfl⟩)
                | (go_at_call 131; refine (HCALL.out _ q5 c5 (hr3w.below (Nat.le_refl _) hac5.drew) (hrow5.below (Nat.le_refl _) (Below.refl _ _).drew) hq5).mono ?_; rintro e w7 ⟨q7, c7, vs7, rfl, hnil7, hrow7, hqb7, hin7, hb7', _⟩; have hb7 : Below w5.heap.size w5 w7 := (((Below.refl _ _).drew).on hb7'); have j0 := (hb7.cell (p := ⟨w.heap.size, 0, none⟩) hz5).trans e0; have j1 := (hb7.cell (p := ⟨w.heap.size, 1, none⟩) hz5).trans e1; have hz7 : w.heap.size < w7.heap.size := Nat.lt_of_lt_of_le hz5 hb7.size)
                | (refine step_lists _ (by rfl) _ _ (by rfl) w1.heap.size _ vs vs7 (by rfl) (owns_below HO5.out (Nat.le_refl _) hb7) q7 c7 (by rfl) hnil7 hrow7 (InL.all (by rintro u l ⟨q, c, rfl, _⟩; rfl) hin7) (by have := hin7.len; have := HBD.out; omega) (by have := hac5.size; have := hb7.size; omega) ?_; intro v8 w8 hown8 hgr8 hbk8 hsame8; have l0 := (hgr8.cell_far ⟨w.heap.size, 0, none⟩ hz7 hva).trans j0; have l1 := (hgr8.cell_far ⟨w.heap.size, 1, none⟩ hz7 hva).trans j1)
                | fail)
              have hstep := OutL.step (b := b ++ [(i : Int)]) HO.out HN0.out HIN.out hbel hb5 hqb5 (by simp) hin7 HKNE.out hb7 hown8 hgr8 hbk8 hsame8
              have HSTEP := Lib.hid hstep
              clear hstep hown8 hgr8 hbk8 hsame8 hin7 hrow7 hb7 hb5 e0 e1 j0 j1 l0 l1
              go_wp2
              go_roundw
              case rel => exact ⟨t + 1, by have := HI.out; omega, by have := HI.out; go_num, _, by have h1 := HI.out; have h2 := HM.out; have h3 := HLS.out; rw [show cs.length - (lo + (t + 1)) = m by omega, show lo + (t + 1) = i + 1 by omega]; exact h3, HSTEP.out⟩
              case measure => have := HI.out; simp [intOf]; omega
          · obtain rfl : i = cs.length := by omega
            have hls2 : ls = plansFrom n cs (cs.length - lo) lo b s := by
              rw [Nat.sub_self] at hls
              simpa [plansFrom] using hls
            obtain ⟨q9, c9, e9, hr9, _, hqb9⟩ := rowV_of_owns ho (by intro h; exact List.length_eq_zero_iff.1 h)
            have hno : vs = [] → q9 = none ∧ c9 = 0 := by
              intro h
              have := hn0 h
              rw [this] at e9
              injection e9 with e1 _ e2
              exact ⟨e1.symm, e2.symm⟩
            have hin9 : InL (NewI wr w.heap.size (some ⟨bb, off, none⟩)) vs ls := InL.mono (fun v l ⟨q, c, e, hr, hn, hx⟩ => ⟨q, c, e, hr, hn, .inr fun a ha => by have := (hx a ha).1; omega⟩) hin
            rw [hls2] at hin9
            have H9 := Lib.hid hin9
            have HR9 := Lib.hid hr9
            have HNO := Lib.hid hno
            have HQ9 := Lib.hid hqb9
            subst e9
            have HCAP := Lib.hid (own_cap ho)
            clear ho hn0 hin hls hls2 hr9 hno hin9 hqb9
            go_wp2
            go_ret
            exact ⟨q9, c9, vs, rfl, HNO.out, HR9.out, fun a ha => ⟨by have := (HQ9.out a ha).1; omega, (HQ9.out a ha).2⟩, H9.out, hac1.on hbel, HCAP.out⟩
end Go.Proofs.YtadamjleglckpaaGreat.drn

/- Helpers of the law: the closure of plans, where it stands. -/
namespace Go.Proofs.YtadamjleglckpaaGreat.drn
open Go.RowKit
set_option linter.unusedSimpArgs false
set_option linter.unusedVariables false
/-- but for one block all that lies in memory stays -/
structure But (g : Nat) (w w' : World) : Prop where
  os : w'.os = w.os
  tape : w'.tape = w.tape
  output : w'.output = w.output
  size : w.heap.size ≤ w'.heap.size
  block : ∀ k, k < w.heap.size → k ≠ g → w'.heap[k]? = w.heap[k]?
theorem But.below {g B : Nat} {w w' : World} (h : But g w w') (hB : B ≤ w.heap.size) (hg : B ≤ g) : Below B w w' := ⟨h.os, h.tape, h.output, h.size, fun k hk => h.block k (by omega) (by omega)⟩
def SortOk : Prop := ∀ (base g cap : Nat) (xs : List Int) (w : World), w.ownsRow base 3 1 (.slice (some ⟨g, 0, none⟩) xs.length cap) xs.length (flatI xs) → xs.length ≤ 1000000 →
    Calls Tryz.prog 38 #[.slice (some ⟨g, 0, none⟩) xs.length cap] w fun e w' => e = .returned (.tuple #[]) ∧ RowV w' (some ⟨g, 0, none⟩) (flatI (sortI xs)) ∧ But g w w'
/-- the closure, over the places of its variables -/
def putV (B : Nat) : Value := .func (.func 80) #[] #[.pointer (some ⟨B + 2, 0, none⟩), .pointer (some ⟨B, 0, none⟩), .pointer (some ⟨B + 3, 0, none⟩), .pointer (some ⟨B + 1, 0, none⟩)]
/-- what the closure has captured -/
structure PutC (W : World) (B n : Nat) (q : Option Addr) (cap : Nat) (cs : List Ch) : Prop where
  hill : Cell2 W B (.int .i64 n) (.slice q cs.length cap)
  num : W.cell? ⟨B + 2, 0, none⟩ = some (.int .i64 n)
  self : W.cell? ⟨B + 3, 0, none⟩ = some (putV B)
  row : RowV W q (flatT cs)
  low : ∀ a, q = some a → a.block < B
  size : B + 4 ≤ W.heap.size
/-- a list beside the lists that are found -/
def LP (W : World) (B : Nat) (ob : Option Nat) (q : Option Addr) (l : List Int) : Prop := RowV W q (flatI l) ∧ ∀ a, q = some a → B + 4 ≤ a.block ∧ some a.block ≠ ob ∧ a.block < W.heap.size
/-- what may change: the variable of the lists that are found, and their row -/
structure PFr (B : Nat) (ob : Option Nat) (W W' : World) : Prop where
  os : W'.os = W.os
  tape : W'.tape = W.tape
  output : W'.output = W.output
  size : W.heap.size ≤ W'.heap.size
  block : ∀ k, k < W.heap.size → k ≠ B + 1 → some k ≠ ob → W'.heap[k]? = W.heap[k]?
theorem PFr.refl (B : Nat) (ob : Option Nat) (W : World) : PFr B ob W W := ⟨rfl, rfl, rfl, Nat.le_refl _, fun _ _ _ _ => rfl⟩
theorem PFr.of {B : Nat} {ob : Option Nat} {W W' : World} (h : Below W.heap.size W W') : PFr B ob W W' := ⟨h.os, h.tape, h.output, h.size, fun k hk _ _ => h.block k hk⟩
theorem PFr.trans {B : Nat} {ob ob1 : Option Nat} {W W1 W2 : World} (h : PFr B ob W W1) (h2 : PFr B ob1 W1 W2) (ho : ob1 = ob ∨ ∃ g, ob1 = some g ∧ W.heap.size ≤ g) : PFr B ob W W2 :=
  ⟨h2.os.trans h.os, h2.tape.trans h.tape, h2.output.trans h.output, Nat.le_trans h.size h2.size, fun k hk h1 hn => by
    rw [h2.block k (Nat.lt_of_lt_of_le hk h.size) h1 ?_, h.block k hk h1 hn]
    rcases ho with rfl | ⟨g, rfl, hg⟩
    · exact hn
    · intro e; injection e with e; omega⟩
theorem PFr.cell {B : Nat} {ob : Option Nat} {W W' : World} (h : PFr B ob W W') {b i : Nat} (hb : b < W.heap.size) (h1 : b ≠ B + 1) (hn : some b ≠ ob) : W'.cell? ⟨b, i, none⟩ = W.cell? ⟨b, i, none⟩ := World.cell?_of_block (h.block b hb h1 hn)
theorem PFr.frozen {B : Nat} {ob : Option Nat} {W W' : World} (h : PFr B ob W W') {b i : Nat} (hb : b < W.heap.size) (h1 : b ≠ B + 1) (hn : some b ≠ ob) : W'.frozen? ⟨b, i, none⟩ = W.frozen? ⟨b, i, none⟩ := by
  simp only [World.frozen?, h.block b hb h1 hn]
theorem PFr.row {B : Nat} {ob : Option Nat} {W W' : World} (h : PFr B ob W W') {q : Option Addr} {vs : List Value} (hr : RowV W q vs) (hq : ∀ a, q = some a → a.block ≠ B + 1 ∧ some a.block ≠ ob) : RowV W' q vs := by
  rcases hr with hr | ⟨b, off, e, hz, hc⟩
  · exact .inl hr
  · obtain ⟨h1, h2⟩ := hq _ e
    exact .inr ⟨b, off, e, Nat.lt_of_lt_of_le hz h.size, fun i v hi => (h.cell hz h1 h2).trans (hc i v hi)⟩
theorem LP.go {W W' : World} {B : Nat} {ob ob' : Option Nat} {q : Option Addr} {l : List Int} (h : LP W B ob q l) (hf : PFr B ob W W') (ho : ob' = ob ∨ ∃ g, ob' = some g ∧ W.heap.size ≤ g) : LP W' B ob' q l :=
  ⟨hf.row h.1 fun a ha => ⟨by have := (h.2 a ha).1; omega, (h.2 a ha).2.1⟩, fun a ha => by
    obtain ⟨k1, k2, k3⟩ := h.2 a ha
    refine ⟨k1, ?_, Nat.lt_of_lt_of_le k3 hf.size⟩
    rcases ho with rfl | ⟨g, rfl, hg⟩
    · exact k2
    · intro e; injection e with e; omega⟩
theorem PutC.go {W W' : World} {B n : Nat} {q : Option Addr} {cap : Nat} {cs : List Ch} (h : PutC W B n q cap cs) {ob : Option Nat} (ho : ∀ g, ob = some g → B + 4 ≤ g) (hf : PFr B ob W W') : PutC W' B n q cap cs := by
  have hs := h.size
  have hne : ∀ k, k < B + 4 → some k ≠ ob := fun k hk e => by have := ho k e.symm; omega
  have hc : ∀ k i, k < B + 4 → k ≠ B + 1 → W'.cell? ⟨k, i, none⟩ = W.cell? ⟨k, i, none⟩ := fun k i hk h1 => hf.cell (by omega) h1 (hne k hk)
  have hz : ∀ k i, k < B + 4 → k ≠ B + 1 → W'.frozen? ⟨k, i, none⟩ = W.frozen? ⟨k, i, none⟩ := fun k i hk h1 => hf.frozen (by omega) h1 (hne k hk)
  obtain ⟨x0, x1, x2, x3, x4⟩ := h.hill
  exact ⟨⟨Nat.lt_of_lt_of_le x0 hf.size, (hc B 0 (by omega) (by omega)).trans x1, (hc B 1 (by omega) (by omega)).trans x2, (hz B 0 (by omega) (by omega)).trans x3, (hz B 1 (by omega) (by omega)).trans x4⟩,
    (hc _ 0 (by omega) (by omega)).trans h.num, (hc _ 0 (by omega) (by omega)).trans h.self, hf.row h.row fun a ha => ⟨by have := h.low a ha; omega, hne _ (by have := h.low a ha; omega)⟩, h.low, Nat.le_trans hs hf.size⟩
/-- the lists that are found -/
structure OutP (W : World) (B : Nat) (v : Value) (vs : List Value) (ls : List (List Int)) : Prop where
  cell : W.cell? ⟨B + 1, 0, none⟩ = some v
  thaw : W.frozen? ⟨B + 1, 0, none⟩ = false
  own : W.ownsRow (B + 4) 25 1 v vs.length vs
  each : InL (fun u l => ∃ q c, u = .slice q l.length c ∧ LP W B v.ownBlock q l ∧ (q = none → c = 0)) vs ls
theorem OutP.ob {W : World} {B : Nat} {v : Value} {vs : List Value} {ls : List (List Int)} (h : OutP W B v vs ls) : ∀ g, v.ownBlock = some g → B + 4 ≤ g ∧ g < W.heap.size := fun g hg => h.own.lt g hg
theorem OutP.go {W W' : World} {B : Nat} {v : Value} {vs : List Value} {ls : List (List Int)} (h : OutP W B v vs ls) (hb : Below W.heap.size W W') (hB : B + 1 < W.heap.size) : OutP W' B v vs ls :=
  ⟨(hb.cell (p := ⟨B + 1, 0, none⟩) hB).trans h.cell, (hb.frozen (p := ⟨B + 1, 0, none⟩) hB).trans h.thaw, owns_below h.own (Nat.le_refl _) hb, InL.mono (fun u l ⟨q, c, e, k, hn⟩ => ⟨q, c, e, k.go (PFr.of hb) (.inl rfl), hn⟩) h.each⟩
/-- what a call of the closure makes -/
def PutPost (W : World) (B : Nat) (v : Value) (ls : List (List Int)) (e : Ending) (W' : World) : Prop :=
  e = .returned (.tuple #[]) ∧ ∃ v' vs', OutP W' B v' vs' ls ∧ PFr B v.ownBlock W W' ∧ (v'.ownBlock = v.ownBlock ∨ ∃ g, v'.ownBlock = some g ∧ W.heap.size ≤ g)
theorem PFr.grown {B : Nat} {ob : Option Nat} {W W' : World} (h : W.grownBy W' ob) : PFr B ob W W' := ⟨h.os, h.tape, h.output, h.size, fun k hk _ hn => h.block k hk hn⟩
theorem PFr.store {B i : Nat} {ob : Option Nat} {W : World} (u : Value) : PFr B ob W (W.setCell ⟨B + 1, i, none⟩ u) :=
  ⟨rfl, rfl, rfl, by simp, fun k hk h1 _ => heap_setCell_other W ⟨B + 1, i, none⟩ k u h1⟩
theorem PFr.same {B : Nat} {ob : Option Nat} {W W1 W2 : World} (h : PFr B ob W W1) (h2 : PFr B ob W1 W2) : PFr B ob W W2 := h.trans h2 (.inl rfl)
/-- one list more is found -/
theorem put_fin {w W2 w3 : World} {o : Obj} {B g cap : Nat} {v v' : Value} {vs : List Value} {ls : List (List Int)} {l : List Int} (hO : OutP w B v vs ls) (hB : B + 4 ≤ w.heap.size) (hb : Below w.heap.size w W2) (hr : RowV W2 (some ⟨g, 0, none⟩) (flatI l)) (hg : w.heap.size ≤ g) (hgs : g < W2.heap.size)
    (hown : w3.ownsRow (B + 4) 25 1 v' (vs.length + 1) (vs ++ [.slice (some ⟨g, 0, none⟩) l.length cap])) (hgr : (W2.alloc o).grownBy w3 v.ownBlock) (hbl : v'.ownBlock = v.ownBlock ∨ v'.ownBlock = some (W2.alloc o).heap.size) :
    PutPost w B v (ls ++ [l]) (.returned (.tuple #[])) (w3.setCell ⟨B + 1, 0, none⟩ v') := by
  have hob := hO.ob
  have hsz := hb.size
  have hAl : Below W2.heap.size W2 (W2.alloc o) := (Below.refl _ _).alloc (Nat.le_refl _) _
  have f1 : PFr B v.ownBlock w W2 := PFr.of hb
  have f2 : PFr B v.ownBlock w (W2.alloc o) := f1.same (PFr.of hAl)
  have f3 : PFr B v.ownBlock w w3 := f2.same (PFr.grown hgr)
  have f4 : PFr B v.ownBlock w (w3.setCell ⟨B + 1, 0, none⟩ v') := f3.same (PFr.store v')
  have hs3 := hgr.size
  have hsA : (W2.alloc o).heap.size = W2.heap.size + 1 := by simp
  have hnew : v'.ownBlock = v.ownBlock ∨ ∃ g, v'.ownBlock = some g ∧ w.heap.size ≤ g := by
    rcases hbl with h | h
    · exact .inl h
    · exact .inr ⟨_, h, by omega⟩
  have hBo : some (B + 1) ≠ v.ownBlock := fun e => by have := (hob _ e.symm).1; omega
  have hc3 : w3.cell? ⟨B + 1, 0, none⟩ = some v := ((hgr.cell_far ⟨B + 1, 0, none⟩ (show B + 1 < _ by omega) hBo).trans (hAl.cell (p := ⟨B + 1, 0, none⟩) (show B + 1 < _ by omega))).trans ((hb.cell (p := ⟨B + 1, 0, none⟩) (show B + 1 < _ by omega)).trans hO.cell)
  have hz3 : w3.frozen? ⟨B + 1, 0, none⟩ = false := by
    have e1 : w3.heap[B + 1]? = w.heap[B + 1]? := ((hgr.block (B + 1) (by omega) hBo).trans (hAl.block (B + 1) (by omega))).trans (hb.block (B + 1) (by omega))
    have := hO.thaw
    simp only [World.frozen?, e1] at this ⊢
    exact this
  refine ⟨rfl, v', _, ⟨by rw [World.cell?_setCell_same (h := hc3)], by simpa using hz3, by rw [List.length_append]; exact ownsRow_setCell hown _ _ (show B + 1 < B + 4 by omega), ?_⟩, f4, hnew⟩
  refine InL.app (InL.mono (fun u l ⟨q, c, e, k, hn⟩ => ⟨q, c, e, k.go f4 hnew, hn⟩) hO.each) ⟨⟨some ⟨g, 0, none⟩, cap, rfl, ⟨?_, fun a ha => ?_⟩, by simp⟩, trivial⟩
  · have hgo : some g ≠ v.ownBlock := fun e => by have := (hob _ e.symm).2; omega
    have k1 := ((PFr.of (B := B) (ob := v.ownBlock) hAl).same (PFr.grown hgr)).same (PFr.store (i := 0) v')
    exact k1.row hr fun a ha => by injection ha with ha; subst ha; exact ⟨show g ≠ B + 1 by omega, hgo⟩
  · injection ha with ha
    subst ha
    refine ⟨show B + 4 ≤ g by omega, ?_, by simp only [World.size_setCell]; show g < _; omega⟩
    show some g ≠ v'.ownBlock
    rcases hbl with h | h
    · rw [h]; intro e; have := (hob _ e.symm).2; omega
    · rw [h]; intro e; injection e with e; omega
end Go.Proofs.YtadamjleglckpaaGreat.drn

/- Helpers of the law: the closure of plans, walked. -/
namespace Go.Proofs.YtadamjleglckpaaGreat.drn
open Go.RowKit
set_option linter.unusedSimpArgs false
set_option linter.unusedVariables false
set_option maxRecDepth 100000 in
set_option maxHeartbeats 4000000 in
/-- a choice that is full, but by which some gallery does not drain -/
theorem put_dry (B n cap : Nat) (q : Option Addr) (cs : List Ch) (qp qt : Option Addr) (cp ct : Nat) (plan to : List Int) (w : World) (hn : n ≤ 6) (hC : PutC w B n q cap cs) (ht : RowV w qt (flatI to)) (htl : to.length = n) (htb : ∀ x ∈ to, 0 ≤ x ∧ x ≤ n) (hf : flowsS n to = false) :
    Calls Tryz.prog 80 #[.slice qp plan.length cp, .slice qt to.length ct, .pointer (some ⟨B + 2, 0, none⟩), .pointer (some ⟨B, 0, none⟩), .pointer (some ⟨B + 3, 0, none⟩), .pointer (some ⟨B + 1, 0, none⟩)] w fun e w' => e = .returned (.tuple #[]) ∧ w' = w := by
  have c2 := hC.num
  have HT := Lib.hid ht
  have HTB := Lib.hid htb
  have HF := Lib.hid hf
  have HTL := Lib.hid htl
  rw [htl]
  have hb1 : decide ((n : Int) < (n : Int)) = false := by simp
  clear hC ht htb hf htl
  go_enter Tryz.func80, Tryz.ntmps80
  go_wp2
  go_loopw [52] (fun i wr => ∃ g : Nat, g ≤ n ∧ i = .int .i64 (g : Int) ∧ (∀ k, k < g → ¬ flowF n to n (k : Int) < n) ∧ wr = w) (fun i _ => n - (intOf i).toNat)
  case atStart => exact ⟨0, Nat.zero_le _, rfl, fun k hk => absurd hk (Nat.not_lt_zero _), rfl⟩
  case round =>
    obtain ⟨g, hg, rfl, hall, rfl⟩ := hrel
    have HALL := Lib.hid hall
    clear hall
    by_cases hgn : g < n
    · go_wp2
      go_loopw [56, 10] (fun i x wx => ∃ j : Nat, j ≤ n ∧ i = .int .i64 (j : Int) ∧ x = .int .i64 (flowF n to j (g : Int)) ∧ wx = wr) (fun i _ _ => n - (intOf i).toNat)
      case atStart => exact ⟨0, Nat.zero_le _, rfl, rfl, rfl⟩
      case round =>
        obtain ⟨j, hj, rfl, rfl, rfl⟩ := hrel
        by_cases hjn : j < n
        · have hbd := flowF_bd HTB.out HTL.out j (g : Int) (by omega) (by omega)
          have hst := flowF_step n to j (g : Int)
          unfold nxF at hst
          generalize flowF n to j (g : Int) = x at *
          by_cases hx : x < (n : Int)
          · rw [if_pos hx] at hst
            obtain ⟨y, rfl⟩ : ∃ y : Nat, x = y := ⟨x.toNat, by omega⟩
            obtain ⟨b, off, rfl, hz, hc⟩ := rowI_at HT.out (show y < to.length by have := HTL.out; omega) (Nat.le_refl _) (Below.refl _ _)
            rw [Int.toNat_natCast] at hst
            obtain ⟨z, hzz⟩ : ∃ z, to.getD y 0 = z := ⟨_, rfl⟩
            rw [hzz] at hst hc
            have HST := Lib.hid hst
            clear hzz
            have hy0 : (0 : Int) ≤ (y : Int) := by omega
            clear hst
            go_wp2
            go_roundw
            case rel => exact ⟨j + 1, hjn, by go_num, by rw [HST.out], by first | rfl | trivial⟩
            case measure => simp [intOf]; omega
          · rw [if_neg hx] at hst
            have HST := Lib.hid hst
            clear hst
            go_wp2
            go_roundw
            case rel => exact ⟨j + 1, hjn, by go_num, by rw [HST.out], by first | rfl | trivial⟩
            case measure => simp [intOf]; omega
        · obtain rfl : j = n := by omega
          obtain ⟨x, hx⟩ : ∃ x, flowF j to j (g : Int) = x := ⟨_, rfl⟩
          rw [hx]
          have HX := Lib.hid hx
          clear hx
          by_cases hlt : x < (j : Int)
          · go_wp2
            first | (refine bodyPost_end (results_none rfl _ _ _) rfl ?_; exact ⟨rfl, rfl⟩) | (refine bodyPost_ret (results_none rfl _ _ _) rfl ?_; exact ⟨rfl, rfl⟩) | (trace_state; fail)
          · go_wp2
            go_roundw
            case rel => exact ⟨g + 1, hgn, by go_num, fun k hk => by
              by_cases e : k = g
              · subst e; rw [HX.out]; omega
              · have := HALL.out k (by omega); omega, by first | rfl | trivial⟩
            case measure => simp [intOf]; omega
    · obtain rfl : g = n := by omega
      exfalso
      have h1 : flowsS g to = true := by
        unfold flowsS
        rw [List.all_eq_true]
        intro k hk
        have := HALL.out k (List.mem_range.1 hk)
        simpa using this
      rw [HF.out] at h1
      cases h1
end Go.Proofs.YtadamjleglckpaaGreat.drn

/- Helpers of the law: the closure of plans, a choice that is full. -/
namespace Go.Proofs.YtadamjleglckpaaGreat.drn
open Go.RowKit
set_option linter.unusedSimpArgs false
set_option linter.unusedVariables false
theorem sortI_length0 (l : List Int) : (sortI l).length = l.length := (sortI_perm l).length_eq
set_option maxRecDepth 100000 in
set_option maxHeartbeats 4000000 in
/-- a choice that is full, and by which all galleries drain -/
theorem put_wet (hso : SortOk) (B n cap : Nat) (q : Option Addr) (cs : List Ch) (qp qt : Option Addr) (cp ct : Nat) (plan to : List Int) (v : Value) (vs : List Value) (ls : List (List Int)) (w : World) (hn : n ≤ 6) (hC : PutC w B n q cap cs) (ht : RowV w qt (flatI to)) (htl : to.length = n) (htb : ∀ x ∈ to, 0 ≤ x ∧ x ≤ n) (hf : flowsS n to = true)
    (hp : RowV w qp (flatI plan)) (hqp : qp = none → cp = 0) (hpl : plan ≠ []) (hpn : plan.length ≤ 1000) (hO : OutP w B v vs ls) (hls : ls.length ≤ 100000) :
    Calls Tryz.prog 80 #[.slice qp plan.length cp, .slice qt to.length ct, .pointer (some ⟨B + 2, 0, none⟩), .pointer (some ⟨B, 0, none⟩), .pointer (some ⟨B + 3, 0, none⟩), .pointer (some ⟨B + 1, 0, none⟩)] w (PutPost w B v (ls ++ [sortI plan])) := by
  have c2 := hC.num
  have hBs := hC.size
  have HVL := Lib.hid (show vs.length = ls.length from hO.each.len)
  have HT := Lib.hid ht
  have HTB := Lib.hid htb
  have HF := Lib.hid (show ∀ k, k < n → ¬ flowF n to n (k : Int) < n from fun k hk => by
    unfold flowsS at hf
    rw [List.all_eq_true] at hf
    have := hf k (List.mem_range.2 hk)
    simpa using this)
  have HTL := Lib.hid htl
  have HO := Lib.hid hO
  have hcl := cloneI_any qp cp plan w hp hqp hpn
  have HCL := Lib.hid hcl
  have HPL := Lib.hid hpl
  have HSO := Lib.hid hso
  rw [htl]
  have hb1 : decide ((n : Int) < (n : Int)) = false := by simp
  clear hC ht htb hf htl hO hcl hp hqp hpl hso
  go_enter Tryz.func80, Tryz.ntmps80
  go_wp2
  go_loopw [52] (fun i wr => ∃ g : Nat, g ≤ n ∧ i = .int .i64 (g : Int) ∧ wr = w) (fun i _ => n - (intOf i).toNat)
  case atStart => exact ⟨0, Nat.zero_le _, rfl, rfl⟩
  case round =>
    obtain ⟨g, hg, rfl, rfl⟩ := hrel
    by_cases hgn : g < n
    · go_wp2
      go_loopw [56, 10] (fun i x wx => ∃ j : Nat, j ≤ n ∧ i = .int .i64 (j : Int) ∧ x = .int .i64 (flowF n to j (g : Int)) ∧ wx = wr) (fun i _ _ => n - (intOf i).toNat)
      case atStart => exact ⟨0, Nat.zero_le _, rfl, rfl, rfl⟩
      case round =>
        obtain ⟨j, hj, rfl, rfl, rfl⟩ := hrel
        by_cases hjn : j < n
        · have hbd := flowF_bd HTB.out HTL.out j (g : Int) (by omega) (by omega)
          have hst := flowF_step n to j (g : Int)
          unfold nxF at hst
          generalize flowF n to j (g : Int) = x at *
          by_cases hx : x < (n : Int)
          · rw [if_pos hx] at hst
            obtain ⟨y, rfl⟩ : ∃ y : Nat, x = y := ⟨x.toNat, by omega⟩
            obtain ⟨b, off, rfl, hz, hc⟩ := rowI_at HT.out (show y < to.length by have := HTL.out; omega) (Nat.le_refl _) (Below.refl _ _)
            rw [Int.toNat_natCast] at hst
            obtain ⟨z, hzz⟩ : ∃ z, to.getD y 0 = z := ⟨_, rfl⟩
            rw [hzz] at hst hc
            have HST := Lib.hid hst
            clear hzz
            have hy0 : (0 : Int) ≤ (y : Int) := by omega
            clear hst
            go_wp2
            go_roundw
            case rel => exact ⟨j + 1, hjn, by go_num, by rw [HST.out], by first | rfl | trivial⟩
            case measure => simp [intOf]; omega
          · rw [if_neg hx] at hst
            have HST := Lib.hid hst
            clear hst
            go_wp2
            go_roundw
            case rel => exact ⟨j + 1, hjn, by go_num, by rw [HST.out], by first | rfl | trivial⟩
            case measure => simp [intOf]; omega
        · obtain rfl : j = n := by omega
          have hx := HF.out g hgn
          obtain ⟨x, hxx⟩ : ∃ x, flowF j to j (g : Int) = x := ⟨_, rfl⟩
          rw [hxx] at hx ⊢
          clear hxx
          go_wp2
          go_roundw
          case rel => exact ⟨g + 1, hgn, by go_num, by first | rfl | trivial⟩
          case measure => simp [intOf]; omega
    · obtain rfl : g = n := by omega
      go_upto_region 18 with (go_at_call 81; refine HCL.out.mono ?_; rintro e W1 ⟨v1, rfl, hown1, hb1'⟩)
      obtain ⟨q1, c1, rfl, hr1, _, hqb1⟩ := rowV_of_owns hown1 (by intro h; exact absurd (List.length_eq_zero_iff.1 h) HPL.out)
      obtain ⟨_, ⟨_, h0⟩ | ⟨b1', cap1, cur1, e1, hgb, _⟩⟩ := id hown1
      · exact absurd (List.length_eq_zero_iff.1 h0) HPL.out
      injection e1 with e1 _ e3
      subst e1
      subst e3
      have HG1 := Lib.hid (show wr.heap.size ≤ b1' ∧ b1' < W1.heap.size from hqb1 _ rfl)
      have HS1 := Lib.hid (HSO.out _ _ _ plan W1 hown1 (by omega))
      have HB1 := Lib.hid hb1'
      clear hown1 hr1 hqb1 hgb hb1'
      go_upto_region 19 with (go_at_call 38; refine HS1.out.mono ?_; rintro e W2 ⟨rfl, hr2, hbut⟩)
      have hb2 : Below wr.heap.size wr W2 := HB1.out.trans (hbut.below HB1.out.size HG1.out.1)
      have hO2 := HO.out.go hb2 (by omega)
      have HO2 := Lib.hid hO2
      have x5 := hO2.cell
      have x6 := hO2.thaw
      have HR2 := Lib.hid hr2
      have HB2 := Lib.hid hb2
      have hs2 := hb2.size
      have hg2 : b1' < W2.heap.size := by have := HG1.out.2; have := hbut.size; omega
      have hvb : some (B + 1) ≠ v.ownBlock := fun e => by have := (HO.out.ob _ e.symm).1; omega
      have hz1 : B + 1 < W2.heap.size := by omega
      have hvl2 : vs.length ≤ 100000 := by have := HVL.out; omega
      clear hO2 hr2 hb2 hbut
      go_wp2_with (at_builtin; refine app_one _ rfl (.tmp 74) (.tmp 76) 58 rfl (B + 4) 25 _ 1 24 Tryz.underlying58 infoL rfl (by decide) (by decide) v vs.length vs rfl (HO2.out.own.alloc _) W2.heap.size 1 rfl [.slice (some ⟨b1', 0, none⟩) plan.length c1] rfl ?_ ?_ (by omega) (by simp; omega) ?_; (focus (intro j u hj; match j, hj with | 0, hj => (simp at hj; subst hj; simp))); (focus (intro u hu; simp at hu; subst hu; rfl)); intro v' w3 hown3 hgrow hblk; obtain ⟨q9, c9, rfl, _, _, _⟩ := rowV_of_owns hown3 (by intro h; simp at h); have hal : Below W2.heap.size W2 (W2.alloc (.cells #[.slice (some ⟨b1', 0, none⟩) plan.length c1] 25)) := (Below.refl _ _).alloc (Nat.le_refl _) _; have m3 := ((hgrow.cell_far ⟨B + 1, 0, none⟩ (Nat.lt_of_lt_of_le hz1 hal.size) hvb).trans (hal.cell (p := ⟨B + 1, 0, none⟩) hz1)).trans x5; have m4 : w3.frozen? ⟨B + 1, 0, none⟩ = false := (by have e1 := (hgrow.block (B + 1) (Nat.lt_of_lt_of_le hz1 hal.size) hvb).trans (hal.block (B + 1) hz1); simp only [World.frozen?, e1] at x6 ⊢; exact x6))
      have hfin := put_fin (cap := c1) HO.out (by omega) HB2.out HR2.out HG1.out.1 hg2 (by rw [sortI_length0]; exact hown3) hgrow hblk
      have HFIN := Lib.hid hfin
      clear hfin hown3 hgrow hblk m3 m4 hal x5 x6
      refine bodyPost_end (results_none rfl _ _ _) rfl ?_
      exact HFIN.out
end Go.Proofs.YtadamjleglckpaaGreat.drn

/- Helpers of the law: the closure of plans: choices that are not full. -/
namespace Go.Proofs.YtadamjleglckpaaGreat.drn
open Go.RowKit
set_option linter.unusedSimpArgs false
set_option linter.unusedVariables false
/-- where a drawn region stands: new cells, and new lists -/
structure Jp (W0 W : World) (cs : List (Nat × Value)) (rows : List (Nat × List Int)) : Prop where
  bel : Below W0.heap.size W0 W
  cell : ∀ p ∈ cs, W0.heap.size ≤ p.1 ∧ p.1 < W.heap.size ∧ W.cell? ⟨p.1, 0, none⟩ = some p.2
  row : ∀ p ∈ rows, W0.heap.size ≤ p.1 ∧ p.1 < W.heap.size ∧ RowV W (some ⟨p.1, 0, none⟩) (flatI p.2)
theorem Jp.go {W0 W W' : World} {cs : List (Nat × Value)} {rows : List (Nat × List Int)} (h : Jp W0 W cs rows) (hb : Below W.heap.size W W') : Jp W0 W' cs rows :=
  ⟨h.bel.on hb, fun p hp => by
    obtain ⟨a, b, c⟩ := h.cell p hp
    exact ⟨a, Nat.lt_of_lt_of_le b hb.size, (hb.cell (p := ⟨p.1, 0, none⟩) b).trans c⟩, fun p hp => by
    obtain ⟨a, b, c⟩ := h.row p hp
    exact ⟨a, Nat.lt_of_lt_of_le b hb.size, c.below (Nat.le_refl _) hb⟩⟩
theorem Jp.drew {W0 W : World} {cs : List (Nat × Value)} {rows : List (Nat × List Int)} (h : Jp W0 W cs rows) : Jp W0 W.drew cs rows := h.go (Below.refl _ _).drew
theorem Jp.alloc {W0 W : World} {cs : List (Nat × Value)} {rows : List (Nat × List Int)} {v : Value} {t : TypeId} (h : Jp W0 W cs rows) : Jp W0 (W.alloc (.cells #[v] t)) ((W.heap.size, v) :: cs) rows := by
  have hb : Below W.heap.size W (W.alloc (.cells #[v] t)) := (Below.refl _ _).alloc (Nat.le_refl _) _
  have h2 := h.go hb
  refine ⟨h2.bel, fun p hp => ?_, h2.row⟩
  rcases List.mem_cons.1 hp with rfl | hp
  · exact ⟨h.bel.size, by simp, by simp⟩
  · exact h2.cell p hp
theorem capGe (w : World) (n c : Nat) (e : TypeId) : n ≤ grownCap w n c e := grownCap_ge w n c e
/-- at a step of a region that draws: append(list[:len:len], x) lays a new list -/
theorem step_full {W0 W : World} {nc : List (Nat × Value)} {rows : List (Nat × List Int)} (hJ : Jp W0 W nc rows) {ops : Array Oper} {o : Oper} {a : Act} {K : Act → World → Prop} {Q : Exit → Act → World → Prop} {E : Prop} (hgd : o.guard = none) (s x : Operand)
    (ho : o.op = .call { callee := .builtin .append, args := #[s, x], argTypes := #[25, 25] }) (q : Option Addr) (xs : List Int) (y : Int) (m : Nat) (hm : xs.length = m) (hs : a.eval s = .slice q m m) (hr : RowV W0 q (flatI xs)) (hq : q = none → xs = []) (B c : Nat) (hx : a.eval x = .slice (some ⟨B, 0, none⟩) 1 c)
    (hB : (B, .int .i64 y) ∈ nc) (hl : m ≤ 1000)
    (h : ∀ c' W', Jp W0 W' nc ((W.heap.size, xs ++ [y]) :: rows) → m + 1 ≤ c' → K (a.put o.dst (.slice (some ⟨W.heap.size, 0, none⟩) (m + 1) c')) W') :
    if Region.wanted o (yielded ops a.tmps) = true then Oper.wp Tryz.prog o a W K Q else E := by
  obtain ⟨i0, hi, hz0, hz1, hz2⟩ := info_parts infoI
  have hw : Region.wanted o (yielded ops a.tmps) = true := by simp [Region.wanted, hgd]
  rw [if_pos hw]
  obtain ⟨_, _, hcB⟩ := hJ.cell _ hB
  have hrW := hr.below (Nat.le_refl _) hJ.bel
  have hnews : ∀ j v, [Value.int .i64 y][j]? = some v → W.cell? ((⟨B, 0, none⟩ : Addr).add j) = some v := by
    intro j v hj
    rw [addr_add]
    match j, hj with
    | 0, hj => simp at hj; subst hj; exact hcB
  have fin : ∀ (cur : Array Value) (c' : Nat), (∃ zs, cur = (flatI (xs ++ [y])).toArray ++ zs) → m + 1 ≤ c' → K (a.put o.dst (.slice (some ⟨W.heap.size, 0, none⟩) (m + 1) c')) (W.drew.alloc (.cells cur 3)) := by
    rintro cur c' ⟨zs, rfl⟩ hcap
    have hb : Below W.heap.size W (W.drew.alloc (.cells ((flatI (xs ++ [y])).toArray ++ zs) 3)) := (Below.refl _ _).drew.alloc (Nat.le_refl _) _
    have h2 := hJ.go hb
    refine h c' _ ⟨h2.bel, h2.cell, fun p hp => ?_⟩ hcap
    rcases List.mem_cons.1 hp with rfl | hp
    · refine ⟨hJ.bel.size, by simp, .inr ⟨W.heap.size, 0, rfl, by simp, fun i v hi => ?_⟩⟩
      have hi2 := (List.getElem?_eq_some_iff.1 hi).1
      have hn := World.cell?_alloc_at (w := W.drew) ((flatI (xs ++ [y])).toArray ++ zs) 3 W.heap.size (0 + i) rfl
      rw [hn, Nat.zero_add, Array.getElem?_append_left (by simpa using hi2)]
      simpa using hi
    · exact h2.row p hp
  cases q with
  | none =>
    have hx0 := hq rfl
    subst hx0
    have hm0 : m = 0 := by simpa using hm.symm
    subst hm0
    have hrun := run_append_nil (P := Tryz.prog) W 25 o.type 3 i0 _ Tryz.underlying25 hi hz0 ⟨B, 0, none⟩ 1 c [.int .i64 y] (by rw [hz1]; rfl) hnews (by omega) (by omega) (by rw [hz2]; omega)
    unfold Oper.wp
    simp only [execOp, ho, resolve, invoke, builtin, Sem.run_bind, Sem.run_pure, Result.andThen_ok, List.map_toArray, List.map_cons, List.map_nil, hs, hx, hrun]
    exact fin _ _ ⟨_, rfl⟩ (capGe _ _ _ _)
  | some ad =>
    have hold : ∀ j v, (flatI xs)[j]? = some v → W.cell? (ad.add j) = some v := by
      intro j v hj
      rcases hrW with h0 | ⟨b, off, e, _, hc⟩
      · rw [h0] at hj; simp at hj
      · simp only [Option.some.injEq] at e
        subst e
        rw [addr_add_off]
        exact hc j v hj
    have hrun := run_append_grow (P := Tryz.prog) W 25 o.type 3 i0 _ Tryz.underlying25 hi hz0 ad m m (flatI xs) (by rw [hz1, flatI_length, hm]; omega) hold ⟨B, 0, none⟩ 1 c [.int .i64 y] (by rw [hz1]; rfl) hnews (by omega) (by omega) (growslice_fits (by omega) (by rw [hz2]; omega))
    unfold Oper.wp
    simp only [execOp, ho, resolve, invoke, builtin, Sem.run_bind, Sem.run_pure, Result.andThen_ok, List.map_toArray, List.map_cons, List.map_nil, hs, hx, hrun]
    exact fin _ _ ⟨Builtin.zeroCells (Value.int .i64 0).cells (grownCap W (m + 1) m 3 - (m + 1)), by simp [flatI]⟩ (capGe _ _ _ _)

set_option maxRecDepth 100000 in
set_option maxHeartbeats 8000000 in
theorem put_any (hso : SortOk) (B n cap : Nat) (q : Option Addr) (cs : List Ch) (h1 : 1 ≤ n) (hn : n ≤ 6) (hcm : cs.length ≤ 14) (hcs : ∀ c ∈ cs, ChOk n c) : ∀ (k : Nat) (qp qt : Option Addr) (cp ct : Nat) (plan to : List Int) (v : Value) (vs : List Value) (ls : List (List Int)) (w : World),
    to.length + k = n → plan.length = to.length → (∀ x ∈ to, 0 ≤ x ∧ x ≤ n) → PutC w B n q cap cs → OutP w B v vs ls → LP w B v.ownBlock qp plan → LP w B v.ownBlock qt to → (∃ a b, qp = some ⟨a, 0, none⟩ ∧ qt = some ⟨b, 0, none⟩ ∧ to ≠ []) → plan.length ≤ cp → to.length ≤ ct → ls.length + (putS n cs k plan to).length ≤ 16384 →
    Calls Tryz.prog 80 #[.slice qp plan.length cp, .slice qt to.length ct, .pointer (some ⟨B + 2, 0, none⟩), .pointer (some ⟨B, 0, none⟩), .pointer (some ⟨B + 3, 0, none⟩), .pointer (some ⟨B + 1, 0, none⟩)] w (PutPost w B v (ls ++ (putS n cs k plan to).map sortI)) := by
  intro k
  induction k with
  | zero =>
    intro qp qt cp ct plan to v vs ls w hk hpt htb hC hO hlp hlt hqq hcp hct hlen
    have htl : to.length = n := by omega
    cases hf : flowsS n to with
    | false =>
      have e : putS n cs 0 plan to = [] := by unfold putS; rw [hf]; simp
      rw [e, List.map_nil, List.append_nil]
      exact (put_dry B n cap q cs qp qt cp ct plan to w hn hC hlt.1 htl htb hf).mono fun e w' ⟨he, hw⟩ => by subst hw; exact ⟨he, v, vs, hO, PFr.refl _ _ _, .inl rfl⟩
    | true =>
      have e : putS n cs 0 plan to = [plan] := by unfold putS; rw [hf]; simp
      rw [e, List.map_cons, List.map_nil]
      exact put_wet hso B n cap q cs qp qt cp ct plan to v vs ls w hn hC hlt.1 htl htb hf hlp.1 (fun h => by obtain ⟨a, b, e, _⟩ := hqq; rw [e] at h; cases h) (fun h => by rw [h] at hpt; simp at hpt; omega) (by omega) hO (by omega)
  | succ k ih =>
    intro qp qt cp ct plan to v vs ls w hk hpt htb hC hO hlp hlt hqq hcp hct hlen
    have HIH := Lib.hid ih
    have HSO := Lib.hid hso
    have HCS := Lib.hid hcs
    have HK := Lib.hid hk
    have HPT := Lib.hid hpt
    have HTB := Lib.hid htb
    have HC := Lib.hid hC
    have HLP := Lib.hid hlp
    have HLT := Lib.hid hlt
    have HQQ := Lib.hid hqq
    have HLEN := Lib.hid hlen
    have HOB := Lib.hid hO.ob
    have HBS := Lib.hid hC.size
    have HHCS := Lib.hid hcm
    obtain ⟨m, hm⟩ : ∃ m, to.length = m := ⟨_, rfl⟩
    have hm2 : plan.length = m := by omega
    have hmn : (m : Int) < (n : Int) := by omega
    have hm6 : m ≤ 6 := by omega
    rw [hm] at hct ⊢
    rw [hm2] at hcp ⊢
    have HM := Lib.hid hm
    have HM2 := Lib.hid hm2
    obtain ⟨x0, x1, x2, x3, x4⟩ := hC.hill
    have x5 := hC.num
    obtain ⟨L, hL⟩ : ∃ L, cs.length = L := ⟨_, rfl⟩
    have HL := Lib.hid hL
    rw [hL] at x2 hcm
    have hst : Hid (OutP w B v vs ls) := Lib.hid hO
    clear ih hso hcs hk hpt htb hC hO hlp hlt hqq hlen hm hm2 hL
    go_enter Tryz.func80, Tryz.ntmps80
    go_wp2
    go_loopw [19] (fun i wr => ∃ (j : Nat) (v' : Value) (vs' : List Value) (ls' : List (List Int)), j ≤ L ∧ i = .int .i64 (j : Int) ∧ Hid (OutP wr B v' vs' ls') ∧ Hid (ls' ++ (putFrom n cs k j plan to).map sortI = ls ++ (putS n cs (k + 1) plan to).map sortI) ∧ Hid (PFr B v.ownBlock w wr) ∧ Hid (v'.ownBlock = v.ownBlock ∨ ∃ g, v'.ownBlock = some g ∧ w.heap.size ≤ g)) (fun i _ => L - (intOf i).toNat)
    case atStart => exact ⟨0, v, vs, ls, Nat.zero_le _, rfl, hst, Lib.hid (by rw [putFrom_zero]), Lib.hid (PFr.refl _ _ _), Lib.hid (.inl rfl)⟩
    case round =>
      obtain ⟨j, v', vs', ls', hj, rfl, HO, HE, HF, HV⟩ := hrel
      by_cases hjl : j < L
      · have hC2 := HC.out.go (fun g hg => (HOB.out g hg).1) HF.out
        obtain ⟨b, off, rfl, hz, g1, g2, g3⟩ := rowT_at hC2.row (k := j) (by have := HL.out; omega) (Nat.le_refl _) (Below.refl _ _)
        obtain ⟨y0, y1, y2, y3, y4⟩ := hC2.hill
        have hok := HCS.out _ (getD_inl cs j (0, 0, 0) (by have := HL.out; omega))
        have hE2 := putFrom_step n cs k j plan to (by have := HL.out; omega)
        obtain ⟨c1, hc1⟩ : ∃ x, (cs.getD j (0, 0, 0)).1 = x := ⟨_, rfl⟩
        obtain ⟨c2, hc2⟩ : ∃ x, (cs.getD j (0, 0, 0)).2.1 = x := ⟨_, rfl⟩
        obtain ⟨c3, hc3⟩ : ∃ x, (cs.getD j (0, 0, 0)).2.2 = x := ⟨_, rfl⟩
        have e1 : (chAt cs j).1 = c1 := hc1
        have e2 : (chAt cs j).2.1 = c2 := hc2
        rw [hc1] at g1
        rw [hc2] at g2
        rw [hc3] at g3
        rw [e1, e2, HM.out] at hE2
        have HOK := Lib.hid hok
        have HC1 := Lib.hid hc1
        have HC2 := Lib.hid hc2
        have HE2 := Lib.hid hE2
        have HCC := Lib.hid hC2
        have hjL : (j : Int) < (L : Int) := by omega
        clear hok hc1 hc2 hc3 e1 e2 hE2 hC2 x0 x1 x2 x3 x4 x5
        go_upto_region 4 with fail
        have hal : Below wr.heap.size wr (wr.alloc (.cells #[.int .i64 c1, .int .i64 c2, .int .i64 c3] 51)) := (Below.refl _ _).alloc (Nat.le_refl _) _
        have hsz := HF.out.size
        have hB4 := HBS.out
        have HO0 := Lib.hid (HO.out.go hal (by omega))
        have HF0 := Lib.hid (HF.out.same (PFr.of hal))
        have HLP0 := Lib.hid (((HLP.out.go HF.out HV.out).go (PFr.of hal) (.inl rfl)))
        have HLT0 := Lib.hid (((HLT.out.go HF.out HV.out).go (PFr.of hal) (.inl rfl)))
        have HC0 := Lib.hid (HCC.out.go (ob := none) (by simp) (PFr.of hal))
        have s0 : (wr.alloc (.cells #[.int .i64 c1, .int .i64 c2, .int .i64 c3] 51)).cell? ⟨wr.heap.size, 0, none⟩ = some (.int .i64 c1) := by simp
        have s2 : (wr.alloc (.cells #[.int .i64 c1, .int .i64 c2, .int .i64 c3] 51)).cell? ⟨wr.heap.size, 1, none⟩ = some (.int .i64 c2) := by simp
        have hz9 : wr.heap.size < (wr.alloc (.cells #[.int .i64 c1, .int .i64 c2, .int .i64 c3] 51)).heap.size := by simp
        have hob9 : ∀ g, v'.ownBlock = some g → g < wr.heap.size := fun g hg => (HO.out.ob g hg).2
        have HOB9 := Lib.hid hob9
        obtain ⟨C9, hC9⟩ : ∃ C9, wr.heap.size = C9 := ⟨_, rfl⟩
        have hC9B : B + 4 ≤ C9 := by omega
        rw [hC9] at s0 s2 hz9 HOB9 ⊢
        clear hob9 hal y0 y1 y2 y3 y4 g1 g2 g3 HCC HO HF
        generalize (wr.alloc (.cells #[.int .i64 c1, .int .i64 c2, .int .i64 c3] 51)) = W0 at *
        by_cases heq : c1 = (m : Int)
        · have f1 : (c1 == (m : Int)) = true := by simp [heq]
          have s1 := HC0.out.self
          unfold putV at s1
          have hB3 : B + 3 < W0.heap.size := by have := HC0.out.size; omega
          have HJ := Lib.hid (show Jp W0 W0 [] [] from ⟨Below.refl _ _, by simp, by simp⟩)
          have HEQ := Lib.hid heq
          have hd0 : m ≤ cp := by omega
          have hcall : ∀ (W' : World) (a1 d1 a2 d2 : Nat) (nc : List (Nat × Value)) (rows : List (Nat × List Int)), Jp W0 W' nc rows → (a1, plan ++ [(j : Int)]) ∈ rows → (a2, to ++ [c2]) ∈ rows → m + 1 ≤ d1 → m + 1 ≤ d2 →
              Calls Tryz.prog 80 #[.slice (some ⟨a1, 0, none⟩) (m + 1) d1, .slice (some ⟨a2, 0, none⟩) (m + 1) d2, .pointer (some ⟨B + 2, 0, none⟩), .pointer (some ⟨B, 0, none⟩), .pointer (some ⟨B + 3, 0, none⟩), .pointer (some ⟨B + 1, 0, none⟩)] W' (PutPost W' B v' (ls' ++ (putS n cs k (plan ++ [(j : Int)]) (to ++ [c2])).map sortI)) := by
            intro W' a1 d1 a2 d2 nc rows hJ h1r h2r hd1 hd2
            obtain ⟨p1, p2, p3⟩ := hJ.row _ h1r
            obtain ⟨r1, r2, r3⟩ := hJ.row _ h2r
            have hzz : C9 < W0.heap.size := hz9
            have hlpN : LP W' B v'.ownBlock (some ⟨a1, 0, none⟩) (plan ++ [(j : Int)]) := ⟨p3, fun a ha => by injection ha with ha; subst ha; exact ⟨show B + 4 ≤ a1 by omega, fun e => by have := HOB9.out _ e.symm; have : a1 < C9 := this; omega, p2⟩⟩
            have hltN : LP W' B v'.ownBlock (some ⟨a2, 0, none⟩) (to ++ [c2]) := ⟨r3, fun a ha => by injection ha with ha; subst ha; exact ⟨show B + 4 ≤ a2 by omega, fun e => by have := HOB9.out _ e.symm; have : a2 < C9 := this; omega, r2⟩⟩
            have hE3 := HE2.out
            rw [if_pos HEQ.out] at hE3
            have hl3 : ls'.length + (putS n cs k (plan ++ [(j : Int)]) (to ++ [c2])).length ≤ 16384 := by
              have := congrArg List.length HE.out
              rw [hE3] at this
              simp only [List.length_append, List.length_map] at this
              have := HLEN.out
              omega
            have hok := HOK.out
            have hc2b : 0 ≤ c2 ∧ c2 ≤ n := by rw [← HC2.out]; exact hok.2.1
            have := HIH.out (some ⟨a1, 0, none⟩) (some ⟨a2, 0, none⟩) d1 d2 (plan ++ [(j : Int)]) (to ++ [c2]) v' vs' ls' W' (by have := HK.out; simp; omega) (by have := HPT.out; simp; omega)
              (fun x hx => by rcases List.mem_append.1 hx with hx | hx; exact HTB.out x hx; simp at hx; subst hx; exact hc2b) (HC0.out.go (ob := none) (by simp) (PFr.of hJ.bel)) (HO0.out.go hJ.bel (by omega)) hlpN hltN ⟨_, _, rfl, rfl, by simp⟩ (by simp; have := HM2.out; omega) (by simp; have := HM.out; omega) hl3
            rw [List.length_append, List.length_append, List.length_singleton, HM.out, HM2.out] at this
            exact this
          have HCALL := Lib.hid hcall
          clear hcall heq
          go_upto_region 5 with fail
          have k1 : (m : Int) ≤ (cp : Int) := by omega
          have k2 : (m : Int) ≤ (ct : Int) := by omega
          have k4 : (0 : Int) ≤ (m : Int) := by omega
          obtain ⟨ap, at_, rfl, rfl, hne⟩ := HQQ.out
          · have m0 : m ≠ 0 := fun h => by have := HM.out; rw [h] at this; exact hne (List.length_eq_zero_iff.1 this)
            have HNE := Lib.hid hne
            clear hne
            go_region_held3 (fun W => W.cell? ⟨B + 3, 0, none⟩ = some (.func (.func 80) #[] #[.pointer (some ⟨B + 2, 0, none⟩), .pointer (some ⟨B, 0, none⟩), .pointer (some ⟨B + 3, 0, none⟩), .pointer (some ⟨B + 1, 0, none⟩)]) ∧ W.cell? ⟨C9, 1, none⟩ = some (.int .i64 c2)) (first | exact ⟨s1, s2⟩ | exact ⟨t1, t2⟩ | exact ⟨(HJ.out.bel.cell (p := ⟨B + 3, 0, none⟩) hB3).trans s1, (HJ.out.bel.cell (p := ⟨C9, 1, none⟩) hz9).trans s2⟩ | go_keep)
              (first
                | (refine step_full (W0 := W0) (by first | exact HJ.out.alloc.drew | exact HJ.out.alloc.alloc.drew | exact HJ.out.alloc | exact HJ.out) (by rfl) (.tmp 35) (.tmp 37) (by rfl) (some ⟨ap, 0, none⟩) plan (j : Int) m HM2.out (by rfl) HLP0.out.1 (fun h => by cases h) _ _ (by rfl) (by simp) (by omega) ?_; intro d1 W1 HJ1 hd1; have HJ := Lib.hid HJ1; clear HJ1)
                | (refine step_full (W0 := W0) (by first | exact HJ.out.alloc.drew | exact HJ.out.alloc.alloc.drew | exact HJ.out.alloc | exact HJ.out) (by rfl) (.tmp 44) (.tmp 47) (by rfl) (some ⟨at_, 0, none⟩) to c2 m HM.out (by rfl) HLT0.out.1 (fun h => by cases h) _ _ (by rfl) (by simp) (by omega) ?_; intro d2 W1 HJ1 hd2; have HJ := Lib.hid HJ1; clear HJ1)
                | (go_at_call 80; refine (HCALL.out _ _ _ _ _ _ _ HJ.out (by simp) (by simp) hd1 hd2).mono ?_; rintro e W8 ⟨rfl, v8, vs8, hO8, hF8, hV8⟩; have t1 := (hF8.cell (b := B + 3) (i := 0) (Nat.lt_of_lt_of_le hB3 HJ.out.bel.size) (by omega) (fun e => by have := (HO0.out.ob _ e.symm).1; omega)).trans ((HJ.out.bel.cell (p := ⟨B + 3, 0, none⟩) hB3).trans s1); have t2 := (hF8.cell (b := C9) (i := 1) (Nat.lt_of_lt_of_le hz9 HJ.out.bel.size) (by omega) (fun e => by have := HOB9.out _ e.symm; omega)).trans ((HJ.out.bel.cell (p := ⟨C9, 1, none⟩) hz9).trans s2))
                | fail)
            all_goals
              have hE3 := HE2.out
              rw [if_pos HEQ.out] at hE3
              have HE3 := Lib.hid (show (ls' ++ (putS n cs k (plan ++ [(j : Int)]) (to ++ [c2])).map sortI) ++ (putFrom n cs k (j + 1) plan to).map sortI = ls ++ (putS n cs (k + 1) plan to).map sortI by rw [List.append_assoc, ← List.map_append, ← hE3]; exact HE.out)
              have HF8 := Lib.hid ((HF0.out.same (PFr.of HJ.out.bel)).trans hF8 HV.out)
              have HV8 : Hid (v8.ownBlock = v.ownBlock ∨ ∃ g, v8.ownBlock = some g ∧ w.heap.size ≤ g) := Lib.hid (by
                have hz1 := HF0.out.size
                have hz2 := HJ.out.bel.size
                rcases hV8 with h | ⟨g, h, hg⟩
                · rw [h]; exact HV.out
                · exact .inr ⟨g, h, by omega⟩)
              have HO8 := Lib.hid hO8
              clear hE3 hO8 hF8 hV8 t1 t2
              go_wp2
              go_roundw
              case rel => exact ⟨j + 1, v8, vs8, _, hjl, by go_num, HO8, HE3, HF8, HV8⟩
              case measure => simp [intOf]; omega
        · have f1 : (c1 == (m : Int)) = false := by simp [heq]
          have hE3 := HE2.out
          rw [if_neg heq, List.nil_append] at hE3
          have HE3 := Lib.hid (show ls' ++ (putFrom n cs k (j + 1) plan to).map sortI = ls ++ (putS n cs (k + 1) plan to).map sortI by rw [← hE3]; exact HE.out)
          clear hE3 heq
          go_wp2
          go_roundw
          case rel => exact ⟨j + 1, v', vs', ls', hjl, by go_num, HO0, HE3, HF0, HV⟩
          case measure => simp [intOf]; omega
      · obtain rfl : j = L := by omega
        have hE3 := HE.out
        rw [← HL.out, putFrom_end, List.map_nil, List.append_nil] at hE3
        have HFI := Lib.hid (show PutPost w B v (ls ++ (putS n cs (k + 1) plan to).map sortI) (.returned (.tuple #[])) wr from ⟨rfl, v', vs', by rw [← hE3]; exact HO.out, HF.out, HV.out⟩)
        clear hE3
        go_wp2
        first | (refine bodyPost_end (results_none rfl _ _ _) rfl ?_; exact HFI.out) | (refine bodyPost_ret (results_none rfl _ _ _) rfl ?_; exact HFI.out) | trace_state
end Go.Proofs.YtadamjleglckpaaGreat.drn

