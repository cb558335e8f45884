/- A region that draws its order and ends in one store: what the store's cell held before may be read first (a condition on the world that is asked up to the store, not behind it). -/
import Derived.OrdersHeld
import Derived.RegionTactic
import Derived.WalkKit
namespace Go.Proofs.Ytcalipoknbbaaaa
open Go

section
variable {P : Program} {md : Region.Mode} {ops : Array Oper} {Q : Exit → Act → World → Prop} {S : World → Prop} {z : Nat}

/-- in whatever order it goes on: S holds behind each operation but number z -/
def Until (P : Program) (md : Region.Mode) (ops : Array Oper) (Q : Exit → Act → World → Prop) (S : World → Prop) (z : Nat) : Nat → Array Bool → Act → World → Prop
  | 0 => fun l a w => Region.ready md ops l = [] ∧ Q .normal a w
  | k + 1 => fun l a w => (Region.ready md ops l = [] → Q .normal a w) ∧ ∀ j, j ∈ Region.ready md ops l → wpOp P ops Q j (fun b u => (j ≠ z → S u) ∧ Until P md ops Q S z k (l.setIfInBounds j true) b u) a w

theorem Until.any : ∀ {k : Nat} {l : Array Bool} {a : Act} {w : World}, Until P md ops Q S z k l a w → wpAny P md ops Q k l a w
  | 0, _, _, _, h => h
  | _ + 1, _, _, _, h => And.intro h.1 fun j hj => wpOp_mono (fun _ _ g => Until.any g.2) (h.2 j hj)

/-- what waits for i does not come up together with i -/
theorem not_both {i j : Nat} {oj : Oper} {l : Array Bool} (hoj : ops[j]? = some oj) (hw : ∃ e ∈ oj.after, Region.binds md e = true ∧ e.on = i) (hi : i ∈ Region.ready md ops l) : j ∉ Region.ready md ops l := by
  intro hj
  obtain ⟨e, he, hb, rfl⟩ := hw
  obtain ⟨_, o, ho, hall⟩ := mem_ready.1 hj
  rw [hoj] at ho
  obtain rfl := Option.some.inj ho
  have h1 := hall e he hb
  have h2 := (mem_ready.1 hi).1
  by_cases h : e.on < l.size
  · simp [h] at h1 h2
    rw [h1] at h2
    cases h2
  · simp [Array.getElem?_eq_none (Nat.le_of_not_lt h)] at h1

/-- an operation whose value S tells may be taken first, if number z waits for it -/
theorem Until.early {i : Nat} {oi oz : Oper} {v : Value} (hi : ops[i]? = some oi) (hoz : ops[z]? = some oz) (hwz : ∃ e ∈ oz.after, Region.binds md e = true ∧ e.on = i) (hns : Region.noSelect ops = true)
    (hQ : ∀ c a w, Q (.panic c) (a.put oi.dst v) w → Q (.panic c) a w) :
    ∀ (k : Nat) (l : Array Bool) (a : Act) (w : World), (∀ j oj, ops[j]? = some oj → j ≠ i → l.getD j true = false → (∀ e ∈ oj.after, Region.binds md e = true → e.on ≠ i) → oi.apart ops oj = true) →
      i ∈ Region.ready md ops l → YieldsIf P ops S oi v a → S w → Until P md ops Q S z k (l.setIfInBounds i true) (a.put oi.dst v) w → Until P md ops Q S z (k + 1) l a w := by
  intro k
  induction k with
  | zero =>
    intro l a w _ hr hy hS g
    refine And.intro (fun e => absurd (e ▸ hr) (by simp)) fun j hj => ?_
    by_cases e : j = i
    · subst e
      exact hy.wpOp hi hS ⟨fun _ => hS, g⟩
    · exact absurd (g.1 ▸ ready_mono hj e) (by simp)
  | succ k ih =>
    intro l a w hap hr hy hS g
    refine And.intro (fun e => absurd (e ▸ hr) (by simp)) fun j hj => ?_
    by_cases e : j = i
    · subst e
      exact hy.wpOp hi hS ⟨fun _ => hS, g⟩
    · obtain ⟨hun, oj, hoj, _⟩ := mem_ready.1 hj
      have hjz : j ≠ z := fun h => not_both (md := md) hoz hwz hr (h ▸ hj)
      have hno : ∀ e ∈ oj.after, Region.binds md e = true → e.on ≠ i := fun e he hb heq => not_both (md := md) hoj ⟨e, he, hb, heq⟩ hr hj
      have hsel := Region.noSelect_spec hns
      have hst := wpOp_putIf hoj (hap j oj hoj e hun hno) (fun cs b => hsel i oi cs b hi) (fun cs b => hsel j oj cs b hoj) hQ hy (g.2 j (ready_mono hj e))
      refine wpOp_mono (fun b u hbu => ?_) hst
      obtain ⟨hy', hS', g'⟩ := hbu
      refine ⟨fun _ => hS' hjz, ih _ b u (fun m om hm hmi hmun hmno => hap m om hm hmi ?_ hmno) (ready_mono hr (Ne.symm e)) hy' (hS' hjz) ?_⟩
      · by_cases hjm : j = m
        · exact hjm ▸ hun
        · rwa [getD_set_ne true hjm] at hmun
      · rw [Array.setIfInBounds_comm _ _ e]
        exact g'

theorem Until.take {i : Nat} {oi oz : Oper} {v : Value} {k : Nat} {l : Array Bool} {a : Act} {w : World} (hi : ops[i]? = some oi) (hoz : ops[z]? = some oz)
    (hwz : oz.after.any (fun e => Region.binds md e && e.on == i) = true) (hns : Region.noSelect ops = true) (hf : Region.free md ops l i = true) (hr : (Region.ready md ops l).contains i = true)
    (hQ : ∀ c a w, Q (.panic c) (a.put oi.dst v) w → Q (.panic c) a w) (hy : YieldsIf P ops S oi v a) (hS : S w)
    (h : Until P md ops Q S z k (l.setIfInBounds i true) (a.put oi.dst v) w) : Until P md ops Q S z (k + 1) l a w := by
  refine Until.early hi hoz ?_ hns hQ k l a w (Region.free_spec hi hf) (by simpa using hr) hy hS h
  obtain ⟨e, he, hb⟩ := Array.any_eq_true'.1 hwz
  simp only [Bool.and_eq_true, beq_iff_eq] at hb
  exact ⟨e, he, hb.1, hb.2⟩

theorem Until.taken {i : Nat} {oi oz : Oper} {v : Value} {k : Nat} {l : Array Bool} {a : Act} {w : World} (d : Option Nat) (hi : ops[i]? = some oi) (hd : oi.dst = d) (hoz : ops[z]? = some oz)
    (hwz : oz.after.any (fun e => Region.binds md e && e.on == i) = true) (hns : Region.noSelect ops = true) (hf : Region.free md ops l i = true) (hr : (Region.ready md ops l).contains i = true)
    (hQ : ∀ c a w, Q (.panic c) (a.put oi.dst v) w → Q (.panic c) a w) (hy : YieldsIf P ops S oi v a) (hS : S w)
    (h : Until P md ops Q S z k (l.setIfInBounds i true) (a.put d v) w) : Until P md ops Q S z (k + 1) l a w :=
  Until.take hi hoz hwz hns hf hr hQ hy hS (by rw [hd]; exact h)

/-- the only one that may come up -/
theorem Until.one {i : Nat} {o : Oper} {k : Nat} {l : Array Bool} {a : Act} {w : World} (ho : ops[i]? = some o) (hr : Region.ready md ops l = [i])
    (h : ∀ K : Act → World → Prop, (∀ b u, (i ≠ z → S u) → Until P md ops Q S z k (l.setIfInBounds i true) b u → K b u) → if Region.wanted o (yielded ops a.tmps) = true then Oper.wp P o a w K Q else K (a.put o.dst undef) w) :
    Until P md ops Q S z (k + 1) l a w := by
  refine And.intro (fun e => by rw [hr] at e; cases e) fun j hj => ?_
  rw [hr] at hj
  obtain rfl := List.mem_singleton.1 hj
  exact wpOp_step ho fun K hK => h K fun b u h1 h2 => hK b u ⟨h1, h2⟩
theorem Until.done {k : Nat} {l : Array Bool} {a : Act} {w : World} (hr : Region.ready md ops l = []) (h : Q .normal a w) : Until P md ops Q S z k l a w := by
  cases k with
  | zero => exact And.intro hr h
  | succ k => exact And.intro (fun _ => h) fun j hj => by rw [hr] at hj; cases hj
theorem Until.start {id : Nat} {a : Act} {w : World} (hm : P.follows .mixedOrders = true) (h : Until P .any ops Q S z ops.size (Array.replicate ops.size false) a w.drew) : (Code.region id ops true).wp P Q a w :=
  wp_region_any hm (Until.any h)
end
end Go.Proofs.Ytcalipoknbbaaaa
