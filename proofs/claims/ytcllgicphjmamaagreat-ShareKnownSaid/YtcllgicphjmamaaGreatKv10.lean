/- The reckoner: what a stretch leaves of its memory, by itself. -/
import Derived.Test.YtcllgicphjmamaaGreatKv9
namespace Go.Proofs.YtcllgicphjmamaaGreat.ev
noncomputable section
open Go.RowKit
set_option linter.unusedSimpArgs false
set_option linter.unusedVariables false
set_option linter.unusedSectionVars false
variable [Kn]

def WfB (σ : St) : Prop := ∀ k B, σ.getB k = some B → k < σ.size
structure Canon (σ σ' : St) : Prop where
  size : σ.size ≤ σ'.size
  wr : σ'.wr ≤ σ.wr
  same : ∀ k, k < σ.size → k < σ'.wr → σ'.getB k = σ.getB k
  wf : WfB σ → WfB σ'
theorem Canon.refl (σ : St) : Canon σ σ := ⟨Nat.le_refl _, Nat.le_refl _, fun _ _ _ => rfl, fun h => h⟩
theorem Canon.trans {a b c : St} (h : Canon a b) (k : Canon b c) : Canon a c :=
  ⟨Nat.le_trans h.size k.size, Nat.le_trans k.wr h.wr, fun i h1 h2 => by
    have := h.size; have := k.wr
    rw [k.same i (by omega) h2, h.same i h1 (by omega)], fun hw => k.wf (h.wf hw)⟩
theorem canon_new {σ : St} (B : Blk) (hs : σ.size < 65536) : Canon σ (σ.newS B) := by
  refine ⟨by simp [St.newS], Nat.le_refl _, fun k h1 h2 => by rw [St.getB_newS σ B k hs, if_neg (by omega)], fun hw k B' hk => ?_⟩
  rw [St.getB_newS σ B k hs] at hk
  by_cases e : k = σ.size
  · subst e; simp [St.newS]
  · rw [if_neg e] at hk
    have := hw k B' hk
    simp [St.newS]; omega
theorem canon_newP {σ σ' : St} {cells : List Value} {esz k : Nat} (h : newP σ cells esz = some (k, σ')) : Canon σ σ' := by
  unfold newP at h
  rw [forceL_eq] at h
  split at h
  · rename_i hs
    cases h
    exact canon_new _ hs
  · cases h
theorem canon_write {σ : St} {k : Nat} {B : Blk} (hB : σ.getB k = some B) (cells : List Value) : Canon σ (σ.write k B cells) := by
  have hklt := St.getB_lt hB
  have hal := St.getB_alive hB
  have hsize : (σ.write k B cells).size = σ.size := by simp [St.write, St.setB, (killL_size B.anc σ).1]
  have hwr := foldl_min_le (k :: B.anc) σ.wr
  have h4 : (σ.write k B cells).wr = (k :: B.anc).foldl min σ.wr := rfl
  refine ⟨by rw [hsize]; exact Nat.le_refl _, hwr.1, fun m h1 h2 => ?_, fun hw m B' hm => ?_⟩
  · rw [St.getB_write σ k m B cells hklt hal]
    have e1 : m ≠ k := fun e => by have := hwr.2 k (by simp); omega
    have e2 : m ∉ B.anc := fun e => by have := hwr.2 m (by simp [e]); omega
    simp [e1, e2]
  · rw [St.getB_write σ k m B cells hklt hal] at hm
    rw [hsize]
    by_cases e1 : m = k
    · subst e1; exact hw m B hB
    · rw [if_neg e1] at hm
      by_cases e2 : m ∈ B.anc
      · rw [if_pos e2] at hm; cases hm
      · rw [if_neg e2] at hm; exact hw m B' hm
theorem canon_cont {σ : St} {k : Nat} {B : Blk} (hB : σ.getB k = some B) (hs : σ.size < 65536) (cells : List Value) : Canon σ (σ.cont k B cells) := by
  have hsize : (σ.cont k B cells).size = σ.size + 1 := by simp [St.cont, St.newS, St.setB]
  have h4 : (σ.cont k B cells).wr = min σ.wr k := rfl
  refine ⟨by omega, by omega, fun m h1 h2 => by rw [St.getB_cont σ k m B cells hB hs, if_neg (by omega), if_neg (by omega)], fun hw m B' hm => ?_⟩
  rw [St.getB_cont σ k m B cells hB hs] at hm
  rw [hsize]
  by_cases e0 : m = σ.size
  · omega
  · rw [if_neg e0] at hm
    by_cases e1 : m = k
    · have := hw k B hB; omega
    · rw [if_neg e1] at hm; have := hw m B' hm; omega
theorem canon_map {σ σ' : St} {x : Option (Nat × St)} {f : Nat × St → Value} {r : Value} (hx : ∀ p, x = some p → Canon σ p.2) (h : (x.map fun p => (f p, p.2)) = some (r, σ')) : Canon σ σ' := by
  simp only [Option.map_eq_some_iff, Prod.mk.injEq] at h
  obtain ⟨p, h1, _, rfl⟩ := h
  exact hx p h1
theorem canon_newP' {σ : St} {cells : List Value} {esz : Nat} (p : Nat × St) (h : newP σ cells esz = some p) : Canon σ p.2 := canon_newP (k := p.1) h
theorem canon_one {σ σ' : St} {x : Option Value} {r : Value} (h : one σ x = some (r, σ')) : Canon σ σ' := by
  obtain ⟨_, rfl⟩ := one_some h; exact Canon.refl _
theorem canon_pure {P : Program} {σ σ' : St} {ts : Ts} {o : Oper} {r : Value} (h : pureV P σ ts o = some (r, σ')) : Canon σ σ' := by
  unfold pureV at h
  simp only [Option.map_eq_some_iff, Prod.mk.injEq] at h
  obtain ⟨_, _, _, rfl⟩ := h
  exact Canon.refl _
theorem canon_or {P : Program} {σ σ' : St} {ts : Ts} {o : Oper} {x : Option (Value × St)} {r : Value} (h : orElse x (fun _ => pureV P σ ts o) = some (r, σ')) (hx : ∀ {v s}, x = some (v, s) → Canon σ s) : Canon σ σ' := by
  rcases orElse_some h with h | h
  · exact hx h
  · exact canon_pure h
theorem canon_append {P : Program} {σ σ' : St} {t : TypeId} {s x r : Value} (h : appendV P σ t s x = some (r, σ')) : Canon σ σ' := by
  unfold appendV at h
  simp only [forceL_eq] at h
  split at h
  case h_2 => cases h
  split at h
  case h_2 => cases h
  split at h
  case h_2 => cases h
  split at h
  case h_2 => cases h
  split at h
  case isFalse => cases h
  split at h
  · split at h
    · cases h; exact Canon.refl _
    · cases h
  · split at h
    · cases h
    · split at h
      · split at h
        · exact canon_map canon_newP' h
        · cases h
      · split at h
        · split at h
          · split at h
            · rename_i B hB
              split at h
              · cases h; exact canon_write hB _
              · cases h
            · cases h
          · split at h
            · exact canon_map canon_newP' h
            · cases h
        · split at h
          · split at h
            · rename_i B hB
              split at h
              · split at h
                · split at h
                  · rename_i hs
                    cases h; exact canon_cont hB hs _
                  · cases h
                · split at h
                  · cases h; exact canon_write hB _
                  · cases h
              · cases h
            · cases h
          · cases h
      · cases h
theorem canon_zeros {P : Program} {σ σ' : St} {t t2 : TypeId} {s x r : Value} (h : zerosV P σ t t2 s x = some (r, σ')) : Canon σ σ' := by
  unfold zerosV at h
  split at h
  case h_2 => cases h
  split at h
  case h_2 => cases h
  split at h
  case h_2 => cases h
  split at h
  case h_2 => cases h
  split at h
  case isFalse => cases h
  exact canon_map canon_newP' h
theorem canon_builtin {P : Program} {σ σ' : St} {ts : Ts} {b : Builtin} {tys : List TypeId} {args : List Operand} {r : Value} (h : builtinV P σ ts b tys args = some (r, σ')) : Canon σ σ' := by
  unfold builtinV at h
  split at h
  · split at h
    · simp only [Option.map_eq_some_iff, Prod.mk.injEq] at h
      obtain ⟨_, _, _, rfl⟩ := h; exact Canon.refl _
    · cases h
  · split at h
    · simp only [Option.map_eq_some_iff, Prod.mk.injEq] at h
      obtain ⟨_, _, _, rfl⟩ := h; exact Canon.refl _
    · cases h
  · split at h
    · unfold clearV at h
      split at h
      · split at h
        · cases h; exact Canon.refl _
        · cases h
      · split at h
        case h_2 => cases h
        split at h
        case h_2 => cases h
        split at h
        case h_2 => cases h
        split at h
        case h_2 => cases h
        rename_i B hB
        split at h
        · cases h; exact canon_write hB _
        · cases h
      · cases h
    · cases h
  · split at h
    · split at h
      · exact canon_append h
      · cases h
    · split at h
      · exact canon_zeros h
      · cases h
  · split at h
    · unfold copyV at h
      split at h
      case h_2 => cases h
      split at h
      case h_2 => cases h
      split at h
      case h_2 => cases h
      split at h
      · cases h; exact Canon.refl _
      · split at h
        case h_2 => cases h
        rename_i xs B hxs hB
        split at h
        · cases h; exact canon_write hB _
        · cases h
    · cases h
  · cases h
theorem canon_exec {P : Program} {σ σ' : St} {ts : Ts} {o : Oper} {r : Value} (h : exec P σ ts o = some (r, σ')) : Canon σ σ' := by
  unfold exec at h
  split at h
  case h_1 => exact canon_one h
  case h_2 => exact canon_one h
  case h_3 => unfold xPick at h; split at h; · exact canon_one h
              cases h
  case h_4 =>
    unfold allocV at h
    split at h
    case h_2 => cases h
    split at h
    case h_2 => cases h
    split at h
    · exact canon_map canon_newP' h
    · cases h
  case h_5 => unfold xBox at h; split at h; · exact canon_map canon_newP' h
              cases h
  case h_6 => exact canon_one h
  case h_7 =>
    unfold buildSliceV at h
    split at h
    case isFalse => cases h
    split at h
    case h_2 => cases h
    split at h
    case h_2 => cases h
    split at h
    case h_2 => cases h
    split at h
    case isFalse => cases h
    split at h
    case h_2 => cases h
    exact canon_map canon_newP' h
  case h_8 => unfold xLoad at h; split at h; · exact canon_one h
              cases h
  case h_9 =>
    unfold xStore at h
    split at h
    case h_2 => cases h
    unfold xUnit at h
    split at h
    case h_2 => cases h
    rename_i hs
    cases h
    unfold storeB at hs
    simp only [forceL_eq] at hs
    split at hs
    case h_2 => cases hs
    rename_i B hB
    split at hs
    case h_2 => cases hs
    split at hs
    · cases hs; exact canon_write hB _
    · cases hs
  case h_10 => unfold xNil at h; split at h; · exact canon_or h canon_one
               cases h
  case h_11 =>
    unfold xBin at h
    split at h
    · unfold xInt at h
      split at h
      · exact canon_or h canon_one
      · exact canon_pure h
    · exact canon_or h canon_one
    · cases h
  case h_12 =>
    unfold xNot at h
    split at h
    · split at h
      · cases h; exact Canon.refl _
      · cases h
    · exact canon_pure h
  case h_13 => unfold xIface at h; split at h; · exact canon_one h
               cases h
  case h_14 => exact canon_one h
  case h_15 =>
    unfold xMake at h
    split at h
    case h_2 => cases h
    unfold makeSliceV at h
    split at h
    case h_2 => cases h
    split at h
    case h_2 => cases h
    split at h
    case h_2 => cases h
    split at h
    case h_2 => cases h
    split at h
    · exact canon_map canon_newP' h
    · cases h
  case h_16 => unfold xSlice at h; split at h; · exact canon_or h canon_one
               cases h
  case h_17 => unfold xFieldAddr at h; split at h; · exact canon_one h
               cases h
  case h_18 => unfold xField at h; split at h; · exact canon_one h
               cases h
  case h_19 => unfold xIndexAddr at h; split at h; · exact canon_one h
               cases h
  case h_20 => unfold xIndex at h; split at h; · exact canon_or h canon_one
               cases h
  case h_21 => unfold xExtract at h; split at h; · exact canon_one h
               cases h
  case h_22 => unfold xCall at h; split at h; · exact canon_or h canon_builtin
               cases h
  case h_23 => exact canon_pure h
def CanonOk (ih : Ih) : Prop := ∀ c ts σ ex ts' σ', ih c ts σ = some (ex, ts', σ') → Canon σ σ'
theorem canon_call {P : Program} {ih : Ih} (hC : CanonOk ih) {g : FuncId} {args : List Value} {σ σ' : St} {v : Value} (h : callF P ih g args σ = some (v, σ')) : Canon σ σ' := by
  unfold callF at h
  split at h
  case h_2 => cases h
  split at h
  · cases h; exact Canon.refl _
  unfold callK at h
  split at h
  · cases h
  split at h
  · rename_i hih
    split at h
    · cases h; exact hC _ _ _ _ _ _ hih
    · cases h
  · rename_i hih
    split at h
    · cases h; exact hC _ _ _ _ _ _ hih
    · cases h
  · cases h
theorem canon_op {P : Program} {ih : Ih} (hC : CanonOk ih) {ts : Ts} {σ σ' : St} {o : Oper} {v : Value} (h : opV P ih ts σ o = some (v, σ')) : Canon σ σ' := by
  unfold opV at h
  split at h
  · exact canon_call hC h
  · exact canon_exec h
theorem canon_ops {P : Program} {ih : Ih} (hC : CanonOk ih) {all : Array Oper} : ∀ (l : List Oper) (ts : Ts) (σ : St) (ts' : Ts) (σ' : St), opsV P ih all l ts σ = some (ts', σ') → Canon σ σ'
  | [], ts, σ, ts', σ', h => by simp [opsV] at h; obtain ⟨_, rfl⟩ := h; exact Canon.refl _
  | o :: rest, ts, σ, ts', σ', h => by
    simp only [opsV] at h
    split at h
    · split at h
      · rename_i ho
        split at h
        · exact (canon_op hC ho).trans (canon_ops hC rest _ _ _ _ h)
        · cases h
      · cases h
    · exact canon_ops hC rest _ _ _ _ h
end
end Go.Proofs.YtcllgicphjmamaaGreat.ev
