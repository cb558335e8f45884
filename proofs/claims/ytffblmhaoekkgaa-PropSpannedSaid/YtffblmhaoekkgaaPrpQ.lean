/- Arguments made of small whole numbers alone: what a row's step asks of them. -/
import Derived.Test.YtffblmhaoekkgaaPrpO
import Derived.OpenShut
import Derived.ProofKit
namespace Go.Proofs.Ytffblmhaoekkgaa.prp
open Go.RowKit Go.ChangeShapes Go.WideShapes
set_option linter.unusedSimpArgs false
set_option linter.unusedVariables false
set_option linter.unusedSectionVars false

/-! arguments made of whole numbers alone -/
def plainT (P : Program) : Nat → TypeId → Bool
  | 0, _ => false
  | n + 1, t => match P.underlying t with
    | some (.int _) => true
    | some (.struct fs) => fs.toList.all fun f => plainT P n f.type
    | some (.array _ e) => plainT P n e
    | _ => false
theorem mapM_plain {α β γ : Type} {f g : α → Option (β × List γ)} : ∀ {l : List α} {xs : List (β × List γ)}, (∀ a ∈ l, ∀ x, f a = some x → x.2 = [] ∧ g a = some x) → l.mapM f = some xs → l.mapM g = some xs ∧ xs.flatMap (·.2) = []
  | [], xs, _, h => by
    simp at h
    subst h
    simp
  | a :: l, xs, hf, h => by
    rw [List.mapM_cons] at h ⊢
    cases h1 : f a with
    | none => rw [h1] at h; cases h
    | some x =>
      rw [h1] at h
      cases h2 : l.mapM f with
      | none => rw [h2] at h; cases h
      | some ys =>
        rw [h2] at h
        obtain ⟨k1, k2⟩ := hf a List.mem_cons_self x h1
        obtain ⟨m1, m2⟩ := mapM_plain (g := g) (fun b hb => hf b (List.mem_cons_of_mem _ hb)) h2
        rw [k2, m1]
        simp at h
        subst h
        simp [k1] at m2 ⊢
        exact m2
section
variable {H : Type} {enc : TypeId × Value → H} {P : Program}
theorem trod_plain {w : World} {base : Nat} {sp : Nat → Bool} {hd : Bool} (w' : World) (base' : Nat) (sp' : Nat → Bool) (hd' : Bool) : ∀ (n : Nat) (t : TypeId), plainT P n t = true → ∀ (fuel : Nat) (cs : List Value) (x : DataW H × List MemPlace), DataW.trod enc P w base sp hd fuel t cs = some x →
    x.2 = [] ∧ DataW.trod enc P w' base' sp' hd' fuel t cs = some x
  | 0, t, h => by simp [plainT] at h
  | n + 1, t, h => by
    intro fuel cs x hx
    have hx0 := hx
    cases fuel with
    | zero => exact absurd hx (by rw [DataW.trod]; intro e; cases e)
    | succ fuel =>
      rw [plainT] at h
      rw [DataW.trod.eq_def] at hx ⊢
      simp only at hx ⊢
      cases hu : P.underlying t with
      | none => rw [hu] at h; simp at h
      | some u =>
        rw [hu] at h hx
        cases u with
        | int k =>
          obtain ⟨m, rfl, rfl, hw⟩ := DataW.trod_int hu hx0
          simp only
          rw [if_pos ⟨trivial, hw⟩]
          exact ⟨trivial, rfl⟩
        | struct fs =>
          simp only at h hx ⊢
          split at hx
          · rename_i hl
            rw [if_pos hl]
            simp only [Option.map_eq_some_iff] at hx ⊢
            obtain ⟨ys, h1, rfl⟩ := hx
            obtain ⟨m1, m2⟩ := mapM_plain (g := fun f : Field => DataW.trod enc P w' base' sp' hd' fuel f.type ((cs.drop f.offset).take (P.cellsOf f.type))) (fun f hf y hy => trod_plain w' base' sp' hd' n f.type (List.all_eq_true.1 h f hf) fuel _ y hy) h1
            exact ⟨m2, ys, m1, rfl⟩
          · cases hx
        | array m e =>
          simp only at h hx ⊢
          split at hx
          · rename_i hl
            rw [if_pos hl]
            simp only [Option.map_eq_some_iff] at hx ⊢
            obtain ⟨ys, h1, rfl⟩ := hx
            obtain ⟨m1, m2⟩ := mapM_plain (g := fun i : Nat => DataW.trod enc P w' base' sp' hd' fuel e ((cs.drop (i * P.cellsOf e)).take (P.cellsOf e))) (fun i hi y hy => trod_plain w' base' sp' hd' n e h fuel _ y hy) h1
            exact ⟨m2, ys, m1, rfl⟩
          · cases hx
        | _ => simp at h
theorem trod_same {w : World} {base : Nat} {sp : Nat → Bool} {hd : Bool} (n : Nat) {t : TypeId} (hp : plainT P n t = true) {v : Value} {d : DataW H} {ps : List MemPlace} (h : DataW.Trod enc P w base sp hd t v d ps) :
    ps = [] ∧ ∀ (w' : World) (base' : Nat) (sp' : Nat → Bool) (hd' : Bool), DataW.Trod enc P w' base' sp' hd' t v d [] := by
  obtain ⟨fuel, hf⟩ := h
  have h1 := (trod_plain w base sp hd n t hp fuel _ _ hf).1
  simp only at h1
  subst h1
  exact ⟨rfl, fun w' base' sp' hd' => ⟨fuel, (trod_plain w' base' sp' hd' n t hp fuel _ _ hf).2⟩⟩
end

theorem okWide_row {P : Program} {r : Reach} {w : World} {base : Nat} {t : TypeId} {v : Value} (ht : (∃ fs, P.underlying t = some (.struct fs)) ∨ ∃ n e, P.underlying t = some (.array n e)) (h : Value.okWide P w r base t v) :
    ∃ cs, v = .agg cs ∧ cs.size = P.cellsOf t ∧ Row.okWide P w r base t cs := by
  unfold Value.okWide at h
  rcases ht with ⟨fs, ht⟩ | ⟨n, e, ht⟩ <;> rw [ht] at h <;> exact h
theorem cells_u8 {P : Program} {r : Reach} {w : World} {base n : Nat} {t : TypeId} {cs : Array Value} {u : TypeId} (hu5 : P.underlying u = some (.int .u8)) (hc : P.cellTypes P.depth t = some (List.replicate n u)) (hn : 0 < n) (hsz : cs.size = n) (h : Row.okWide P w r base t cs) :
    ∀ (i : Nat) (v : Value), cs[i]? = some v → ∃ x : Nat, v = .int .u8 x ∧ x < 256 := by
  obtain ⟨ts, h1, _, h3⟩ := h
  rw [hc] at h1
  obtain rfl := Option.some.inj h1
  intro i v hv
  obtain ⟨u, hu, hk⟩ := h3 i v hv
  have hi : i < cs.size := (Array.getElem?_eq_some_iff.1 hv).1
  rw [List.length_replicate, List.getElem?_replicate] at hu
  split at hu
  · obtain rfl := Option.some.inj hu
    unfold Cell.okWide at hk
    rw [hu5] at hk
    cases v <;> simp [Cell.ok, hu5] at hk
    obtain ⟨rfl, hb⟩ := hk
    rename_i m
    simp [IntKind.has, IntKind.min, IntKind.max, IntKind.signed, IntKind.bits] at hb
    exact ⟨m.toNat, by congr 1; omega, by omega⟩
  · cases hu

theorem u8_gen {P : Program} {t : TypeId} (hu : P.underlying t = some (.int .u8)) {w : World} {r : Reach} {base : Nat} {v : Value} (h : Value.okWide P w r base t v) : ∃ x : Nat, v = .int .u8 x ∧ x < 256 := by
  unfold Value.okWide at h
  rw [hu] at h
  simp only at h
  unfold Cell.okWide at h
  rw [hu] at h
  cases v <;> simp [Cell.ok, hu] at h
  obtain ⟨rfl, hb⟩ := h
  rename_i m
  simp [IntKind.has, IntKind.min, IntKind.max, IntKind.signed, IntKind.bits] at hb
  exact ⟨m.toNat, by congr 1; omega, by omega⟩

theorem nums_list : ∀ (l : List Value), (∀ v ∈ l, ∃ x : Nat, v = .int .u8 x ∧ x < 256) → ∃ xs : List Int, l = flatU xs ∧ ∀ x ∈ xs, 0 ≤ x ∧ x ≤ 255
  | [], _ => ⟨[], rfl, by simp⟩
  | v :: l, h => by
    obtain ⟨x, rfl, hx⟩ := h v (by simp)
    obtain ⟨xs, e, hb⟩ := nums_list l fun u hu => h u (by simp [hu])
    refine ⟨(x : Int) :: xs, by rw [e]; rfl, fun y hy => ?_⟩
    rcases List.mem_cons.1 hy with rfl | hy
    · omega
    · exact hb y hy
/-- numbers of eight bits, in structs and arrays -/
theorem nums_gen {P : Program} {t u : TypeId} {n : Nat} (ht : (∃ fs, P.underlying t = some (.struct fs)) ∨ ∃ n e, P.underlying t = some (.array n e)) (hu : P.underlying u = some (.int .u8)) (hc : P.cellTypes P.depth t = some (List.replicate n u)) (hn : 0 < n) (hsz0 : P.cellsOf t = n)
    {w : World} {r : Reach} {base : Nat} {v : Value} (h : Value.okWide P w r base t v) : ∃ xs : List Int, v = .agg (flatU xs).toArray ∧ xs.length = n ∧ ∀ x ∈ xs, 0 ≤ x ∧ x ≤ 255 := by
  obtain ⟨cs, rfl, hsz, hrow⟩ := okWide_row ht h
  rw [hsz0] at hsz
  have hb := cells_u8 hu hc hn hsz hrow
  have hv : ∀ v ∈ cs.toList, ∃ x : Nat, v = .int .u8 x ∧ x < 256 := by
    intro v hv
    obtain ⟨i, hi, e⟩ := List.getElem_of_mem hv
    refine hb i v ?_
    rw [← Array.getElem?_toList, List.getElem?_eq_getElem hi, e]
  obtain ⟨xs, e, hx⟩ := nums_list _ hv
  refine ⟨xs, by rw [← e], ?_, hx⟩
  have h1 := congrArg List.length e
  rw [flatU_length, Array.length_toList, hsz] at h1
  exact h1.symm
theorem u8I_gen {P : Program} {t : TypeId} (hu : P.underlying t = some (.int .u8)) {w : World} {r : Reach} {base : Nat} {v : Value} (h : Value.okWide P w r base t v) : ∃ x : Int, v = .int .u8 x ∧ 0 ≤ x ∧ x ≤ 255 := by
  obtain ⟨x, e, hx⟩ := u8_gen hu h
  exact ⟨x, e, by omega, by omega⟩
section
variable {H : Type} {enc : TypeId × Value → H} {P : Program} {w : World} {base : Nat} {spare : Nat → Bool} {held : Bool}
theorem trodAll_more {t : TypeId} {ts : List TypeId} {vs : List Value} {ds : List (DataW H)} {ps : List MemPlace} (h : DataW.TrodAll enc P w base spare held (t :: ts) vs ds ps) :
    ∃ v vs' d ds' p q, vs = v :: vs' ∧ ds = d :: ds' ∧ ps = p ++ q ∧ DataW.Trod enc P w base spare held t v d p ∧ DataW.TrodAll enc P w base spare held ts vs' ds' q := trodAll_cons h
theorem arr_eq {args : Array Value} {l : List Value} (h : args.toList = l) : args = l.toArray := by subst h; simp
end
theorem cellsHeap : Try.prog.cellTypes Try.prog.depth 25 = some (List.replicate 21 5) := by kernel_rfl
theorem cofHeap : Try.prog.cellsOf 25 = 21 := by kernel_rfl
theorem plainHeap : plainT Try.prog 5 25 = true := by kernel_rfl
theorem cells5 : Try.prog.cellTypes Try.prog.depth 26 = some (List.replicate 5 5) := by kernel_rfl
theorem cof5 : Try.prog.cellsOf 26 = 5 := by kernel_rfl
theorem plain5 : plainT Try.prog 5 26 = true := by kernel_rfl
theorem plainU8 : plainT Try.prog 5 5 = true := by kernel_rfl
theorem heap_of {w : World} {r : Reach} {base : Nat} {v : Value} : Value.okWide Try.prog w r base 25 v → ∃ xs : List Int, v = .agg (flatU xs).toArray ∧ xs.length = 21 ∧ ∀ x ∈ xs, 0 ≤ x ∧ x ≤ 255 := nums_gen (.inl ⟨_, Try.underlying25⟩) Try.underlying5 cellsHeap (by omega) cofHeap
theorem five_of {w : World} {r : Reach} {base : Nat} {v : Value} : Value.okWide Try.prog w r base 26 v → ∃ xs : List Int, v = .agg (flatU xs).toArray ∧ xs.length = 5 ∧ ∀ x ∈ xs, 0 ≤ x ∧ x ≤ 255 := nums_gen (.inr ⟨_, _, Try.underlying26⟩) Try.underlying5 cells5 (by omega) cof5
theorem u8_of {w : World} {r : Reach} {base : Nat} {v : Value} : Value.okWide Try.prog w r base 5 v → ∃ x : Int, v = .int .u8 x ∧ 0 ≤ x ∧ x ≤ 255 := u8I_gen Try.underlying5
end Go.Proofs.Ytffblmhaoekkgaa.prp
