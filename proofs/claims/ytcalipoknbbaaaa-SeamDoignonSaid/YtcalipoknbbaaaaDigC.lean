/- The cells of a hill by numbers, and of galleries by numbers; arguments made of whole numbers alone. -/
import Derived.Test.YtcalipoknbbaaaaSeamp
import Derived.OpenShut
import Derived.ProofKit
namespace Go.Proofs.Ytcalipoknbbaaaa
open Go.RowKit Go.ChangeShapes Go.WideShapes
set_option linter.unusedSimpArgs false
set_option linter.unusedVariables false

/-- the cells of galleries by numbers -/
def flatB (ls : List By) : List Value := ls.flatMap fun x => [.int .u8 x.1, .int .u8 x.2.1, .int .u8 x.2.2.1, .int .u8 x.2.2.2]
def okB (x : By) : Prop := x.1 < 256 ∧ x.2.1 < 256 ∧ x.2.2.1 < 256 ∧ x.2.2.2 < 256
/-- the cells of a hill by numbers -/
def digCells (s m : Nat) (ls : List By) : Array Value := (.int .u8 s :: .int .u8 m :: flatB ls).toArray
theorem flatB_get : ∀ (ls : List By) (i : Nat) (d : By), i < ls.length → (flatB ls)[i * 4]? = some (.int .u8 (ls.getD i d).1) ∧ (flatB ls)[i * 4 + 1]? = some (.int .u8 (ls.getD i d).2.1) ∧
    (flatB ls)[i * 4 + 2]? = some (.int .u8 (ls.getD i d).2.2.1) ∧ (flatB ls)[i * 4 + 3]? = some (.int .u8 (ls.getD i d).2.2.2)
  | [], i, _, h => by simp at h
  | g :: ls, 0, _, _ => by simp [flatB]
  | g :: ls, i + 1, d, h => by
    have ih := flatB_get ls i d (by simpa using h)
    have e : flatB (g :: ls) = .int .u8 g.1 :: .int .u8 g.2.1 :: .int .u8 g.2.2.1 :: .int .u8 g.2.2.2 :: flatB ls := by simp [flatB]
    rw [e, show (i + 1) * 4 = i * 4 + 1 + 1 + 1 + 1 from by omega]
    simpa using ih
/-- a hill by numbers in memory -/
def DigAt (W : World) (B s m : Nat) (ls : List By) : Prop := W.heap[B]? = some (.cells (digCells s m ls) 90 (0, 0))
theorem DigAt.new (w : World) (s m : Nat) (ls : List By) : DigAt (w.alloc (.cells (digCells s m ls) 90)) w.heap.size s m ls := heap_alloc_new w _
theorem DigAt.lt {W : World} {B s m : Nat} {ls : List By} (h : DigAt W B s m ls) : B < W.heap.size := (Array.getElem?_eq_some_iff.1 h).1
theorem DigAt.below {w w' : World} {B s m : Nat} {ls : List By} (h : DigAt w B s m ls) {N : Nat} (hN : B < N) (hb : Below N w w') : DigAt w' B s m ls := (hb.block B hN).trans h
theorem DigAt.head {W : World} {B s m : Nat} {ls : List By} (h : DigAt W B s m ls) : W.cell? ⟨B, 0, none⟩ = some (.int .u8 s) ∧ W.cell? ⟨B, 1, none⟩ = some (.int .u8 m) :=
  ⟨by rw [cell_of_row _ B 0 _ 90 (0, 0) h]; rfl, by rw [cell_of_row _ B 1 _ 90 (0, 0) h]; rfl⟩
theorem DigAt.at {W : World} {B s m : Nat} {ls : List By} (h : DigAt W B s m ls) (i : Nat) (d : By) (hi : i < ls.length) :
    W.cell? ⟨B, 2 + i * 4, none⟩ = some (.int .u8 (ls.getD i d).1) ∧ W.cell? ⟨B, 2 + i * 4 + 1, none⟩ = some (.int .u8 (ls.getD i d).2.1) ∧
    W.cell? ⟨B, 2 + i * 4 + 2, none⟩ = some (.int .u8 (ls.getD i d).2.2.1) ∧ W.cell? ⟨B, 2 + i * 4 + 3, none⟩ = some (.int .u8 (ls.getD i d).2.2.2) := by
  obtain ⟨c0, c1, c2, c3⟩ := flatB_get ls i d hi
  have e : ∀ j, (digCells s m ls)[2 + j]? = (flatB ls)[j]? := by intro j; rw [digCells, List.getElem?_toArray, show 2 + j = j + 1 + 1 by omega]; simp
  refine ⟨?_, ?_, ?_, ?_⟩
  · rw [cell_of_row _ B _ _ 90 (0, 0) h, e]; exact c0
  · rw [cell_of_row _ B _ _ 90 (0, 0) h, Nat.add_assoc, e]; exact c1
  · rw [cell_of_row _ B _ _ 90 (0, 0) h, Nat.add_assoc, e]; exact c2
  · rw [cell_of_row _ B _ _ 90 (0, 0) h, Nat.add_assoc, e]; exact c3


/-! arguments made of whole numbers alone -/
def plainT (P : Program) : Nat → TypeId → Bool
  | 0, _ => false
  | n + 1, t => match P.underlying t with
    | some (.int _) => true
    | some (.struct fs) => fs.toList.all fun f => plainT P n f.type
    | some (.array _ e) => plainT P n e
    | _ => false
theorem mapM_plain {α β γ : Type} {f g : α → Option (β × List γ)} : ∀ {l : List α} {xs : List (β × List γ)}, (∀ a ∈ l, ∀ x, f a = some x → x.2 = [] ∧ g a = some x) → l.mapM f = some xs → l.mapM g = some xs ∧ xs.flatMap (·.2) = []
  | [], xs, _, h => by
    simp at h
    subst h
    simp
  | a :: l, xs, hf, h => by
    rw [List.mapM_cons] at h ⊢
    cases h1 : f a with
    | none => rw [h1] at h; cases h
    | some x =>
      rw [h1] at h
      cases h2 : l.mapM f with
      | none => rw [h2] at h; cases h
      | some ys =>
        rw [h2] at h
        obtain ⟨k1, k2⟩ := hf a List.mem_cons_self x h1
        obtain ⟨m1, m2⟩ := mapM_plain (g := g) (fun b hb => hf b (List.mem_cons_of_mem _ hb)) h2
        rw [k2, m1]
        simp at h
        subst h
        simp [k1] at m2 ⊢
        exact m2
section
variable {H : Type} {enc : TypeId × Value → H} {P : Program}
theorem trod_plain {w : World} {base : Nat} {sp : Nat → Bool} {hd : Bool} (w' : World) (base' : Nat) (sp' : Nat → Bool) (hd' : Bool) : ∀ (n : Nat) (t : TypeId), plainT P n t = true → ∀ (fuel : Nat) (cs : List Value) (x : DataW H × List MemPlace), DataW.trod enc P w base sp hd fuel t cs = some x →
    x.2 = [] ∧ DataW.trod enc P w' base' sp' hd' fuel t cs = some x
  | 0, t, h => by simp [plainT] at h
  | n + 1, t, h => by
    intro fuel cs x hx
    have hx0 := hx
    cases fuel with
    | zero => exact absurd hx (by rw [DataW.trod]; intro e; cases e)
    | succ fuel =>
      rw [plainT] at h
      rw [DataW.trod.eq_def] at hx ⊢
      simp only at hx ⊢
      cases hu : P.underlying t with
      | none => rw [hu] at h; simp at h
      | some u =>
        rw [hu] at h hx
        cases u with
        | int k =>
          obtain ⟨m, rfl, rfl, hw⟩ := DataW.trod_int hu hx0
          simp only
          rw [if_pos ⟨trivial, hw⟩]
          exact ⟨trivial, rfl⟩
        | struct fs =>
          simp only at h hx ⊢
          split at hx
          · rename_i hl
            rw [if_pos hl]
            simp only [Option.map_eq_some_iff] at hx ⊢
            obtain ⟨ys, h1, rfl⟩ := hx
            obtain ⟨m1, m2⟩ := mapM_plain (g := fun f : Field => DataW.trod enc P w' base' sp' hd' fuel f.type ((cs.drop f.offset).take (P.cellsOf f.type))) (fun f hf y hy => trod_plain w' base' sp' hd' n f.type (List.all_eq_true.1 h f hf) fuel _ y hy) h1
            exact ⟨m2, ys, m1, rfl⟩
          · cases hx
        | array m e =>
          simp only at h hx ⊢
          split at hx
          · rename_i hl
            rw [if_pos hl]
            simp only [Option.map_eq_some_iff] at hx ⊢
            obtain ⟨ys, h1, rfl⟩ := hx
            obtain ⟨m1, m2⟩ := mapM_plain (g := fun i : Nat => DataW.trod enc P w' base' sp' hd' fuel e ((cs.drop (i * P.cellsOf e)).take (P.cellsOf e))) (fun i hi y hy => trod_plain w' base' sp' hd' n e h fuel _ y hy) h1
            exact ⟨m2, ys, m1, rfl⟩
          · cases hx
        | _ => simp at h
theorem trod_same {w : World} {base : Nat} {sp : Nat → Bool} {hd : Bool} (n : Nat) {t : TypeId} (hp : plainT P n t = true) {v : Value} {d : DataW H} {ps : List MemPlace} (h : DataW.Trod enc P w base sp hd t v d ps) :
    ps = [] ∧ ∀ (w' : World) (base' : Nat) (sp' : Nat → Bool) (hd' : Bool), DataW.Trod enc P w' base' sp' hd' t v d [] := by
  obtain ⟨fuel, hf⟩ := h
  have h1 := (trod_plain w base sp hd n t hp fuel _ _ hf).1
  simp only at h1
  subst h1
  exact ⟨rfl, fun w' base' sp' hd' => ⟨fuel, (trod_plain w' base' sp' hd' n t hp fuel _ _ hf).2⟩⟩
end

theorem okWide_row {P : Program} {r : Reach} {w : World} {base : Nat} {t : TypeId} {v : Value} (ht : (∃ fs, P.underlying t = some (.struct fs)) ∨ ∃ n e, P.underlying t = some (.array n e)) (h : Value.okWide P w r base t v) :
    ∃ cs, v = .agg cs ∧ cs.size = P.cellsOf t ∧ Row.okWide P w r base t cs := by
  unfold Value.okWide at h
  rcases ht with ⟨fs, ht⟩ | ⟨n, e, ht⟩ <;> rw [ht] at h <;> exact h
theorem cells_u8 {P : Program} {r : Reach} {w : World} {base n : Nat} {t : TypeId} {cs : Array Value} (hu5 : P.underlying 5 = some (.int .u8)) (hc : P.cellTypes P.depth t = some (List.replicate n 5)) (hn : 0 < n) (hsz : cs.size = n) (h : Row.okWide P w r base t cs) :
    ∀ (i : Nat) (v : Value), cs[i]? = some v → ∃ x : Nat, v = .int .u8 x ∧ x < 256 := by
  obtain ⟨ts, h1, _, h3⟩ := h
  rw [hc] at h1
  obtain rfl := Option.some.inj h1
  intro i v hv
  obtain ⟨u, hu, hk⟩ := h3 i v hv
  have hi : i < cs.size := (Array.getElem?_eq_some_iff.1 hv).1
  rw [List.length_replicate, List.getElem?_replicate] at hu
  split at hu
  · obtain rfl := Option.some.inj hu
    unfold Cell.okWide at hk
    rw [hu5] at hk
    cases v <;> simp [Cell.ok, hu5] at hk
    obtain ⟨rfl, hb⟩ := hk
    rename_i m
    simp [IntKind.has, IntKind.min, IntKind.max, IntKind.signed, IntKind.bits] at hb
    exact ⟨m.toNat, by congr 1; omega, by omega⟩
  · cases hu

theorem bytes_of : ∀ (l : List Value) (m : Nat), l.length = 4 * m → (∀ v ∈ l, ∃ x : Nat, v = .int .u8 x ∧ x < 256) → ∃ ls : List By, ls.length = m ∧ l = flatB ls ∧ ∀ x ∈ ls, okB x
  | [], 0, _, _ => ⟨[], rfl, rfl, by simp⟩
  | [], m + 1, h, _ => by simp at h
  | a :: b :: c :: d :: l, 0, h, _ => by simp at h
  | a :: b :: c :: d :: l, m + 1, h, hv => by
    obtain ⟨x0, rfl, k0⟩ := hv a (by simp)
    obtain ⟨x1, rfl, k1⟩ := hv b (by simp)
    obtain ⟨x2, rfl, k2⟩ := hv c (by simp)
    obtain ⟨x3, rfl, k3⟩ := hv d (by simp)
    obtain ⟨ls, e1, e2, e3⟩ := bytes_of l m (by simp at h; omega) (fun v hv' => hv v (by simp [hv']))
    refine ⟨(x0, x1, x2, x3) :: ls, by simp [e1], by rw [e2]; simp [flatB], fun x hx => ?_⟩
    rcases List.mem_cons.1 hx with rfl | hx
    · exact ⟨k0, k1, k2, k3⟩
    · exact e3 x hx
  | [a], m, h, _ => by simp at h; omega
  | [a, b], m, h, _ => by simp at h; omega
  | [a, b, c], m, h, _ => by simp at h; omega

theorem cells90 : Try.prog.cellTypes Try.prog.depth 90 = some (List.replicate 42 5) := by kernel_rfl
theorem cells87 : Try.prog.cellTypes Try.prog.depth 87 = some (List.replicate 4 5) := by kernel_rfl
theorem size90 : Try.prog.cellsOf 90 = 42 := by kernel_rfl
theorem size87 : Try.prog.cellsOf 87 = 4 := by kernel_rfl
theorem plain90 : plainT Try.prog 5 90 = true := by kernel_rfl
theorem plain87 : plainT Try.prog 5 87 = true := by kernel_rfl

theorem dig_gen {P : Program} {fs : Array Field} (hu : P.underlying 90 = some (.struct fs)) (hu5 : P.underlying 5 = some (.int .u8)) (hc : P.cellTypes P.depth 90 = some (List.replicate 42 5)) (hsz0 : P.cellsOf 90 = 42)
    {w : World} {r : Reach} {base : Nat} {v : Value} (h : Value.okWide P w r base 90 v) : ∃ (s m : Nat) (ls : List By), v = .agg (digCells s m ls) ∧ s < 256 ∧ m < 256 ∧ ls.length = 10 ∧ ∀ x ∈ ls, okB x := by
  obtain ⟨cs, rfl, hsz, hrow⟩ := okWide_row (.inl ⟨_, hu⟩) h
  rw [hsz0] at hsz
  have hb := cells_u8 hu5 hc (by omega) hsz hrow
  obtain ⟨l, hl⟩ : ∃ l, cs.toList = l := ⟨_, rfl⟩
  have hll : l.length = 42 := by rw [← hl]; simpa using hsz
  have hv : ∀ v ∈ l, ∃ x : Nat, v = .int .u8 x ∧ x < 256 := by
    intro v hv
    obtain ⟨i, hi, e⟩ := List.getElem_of_mem hv
    refine hb i v ?_
    rw [← Array.getElem?_toList, hl, List.getElem?_eq_getElem hi, e]
  match l, hll, hl, hv with
  | a :: b :: l, hll, hl, hv =>
    obtain ⟨s, rfl, k0⟩ := hv a (by simp)
    obtain ⟨m, rfl, k1⟩ := hv b (by simp)
    obtain ⟨ls, e1, e2, e3⟩ := bytes_of l 10 (by simp at hll; omega) (fun v hv' => hv v (by simp [hv']))
    refine ⟨s, m, ls, ?_, k0, k1, e1, e3⟩
    congr 1
    rw [digCells, ← e2, ← hl]
theorem by_gen {P : Program} {n e : Nat} (hu : P.underlying 87 = some (.array n e)) (hu5 : P.underlying 5 = some (.int .u8)) (hc : P.cellTypes P.depth 87 = some (List.replicate 4 5)) (hsz0 : P.cellsOf 87 = 4)
    {w : World} {r : Reach} {base : Nat} {v : Value} (h : Value.okWide P w r base 87 v) : ∃ x : By, v = .agg #[.int .u8 x.1, .int .u8 x.2.1, .int .u8 x.2.2.1, .int .u8 x.2.2.2] ∧ okB x := by
  obtain ⟨cs, rfl, hsz, hrow⟩ := okWide_row (.inr ⟨_, _, hu⟩) h
  rw [hsz0] at hsz
  have hb := cells_u8 hu5 hc (by omega) hsz hrow
  obtain ⟨l⟩ := cs
  clear hrow h
  match l, hsz, hb with
  | [a, b, c, d], _, hb =>
    obtain ⟨x0, rfl, k0⟩ := hb 0 a rfl
    obtain ⟨x1, rfl, k1⟩ := hb 1 b rfl
    obtain ⟨x2, rfl, k2⟩ := hb 2 c rfl
    obtain ⟨x3, rfl, k3⟩ := hb 3 d rfl
    exact ⟨(x0, x1, x2, x3), rfl, k0, k1, k2, k3⟩
/-- a hill by numbers, and a gallery by numbers, as arguments -/
theorem dig_of {w : World} {r : Reach} {base : Nat} {v : Value} : Value.okWide Try.prog w r base 90 v → ∃ (s m : Nat) (ls : List By), v = .agg (digCells s m ls) ∧ s < 256 ∧ m < 256 ∧ ls.length = 10 ∧ ∀ x ∈ ls, okB x :=
  dig_gen Try.underlying90 Try.underlying5 cells90 size90
theorem by_of {w : World} {r : Reach} {base : Nat} {v : Value} : Value.okWide Try.prog w r base 87 v → ∃ x : By, v = .agg #[.int .u8 x.1, .int .u8 x.2.1, .int .u8 x.2.2.1, .int .u8 x.2.2.2] ∧ okB x :=
  by_gen Try.underlying87 Try.underlying5 cells87 size87
end Go.Proofs.Ytcalipoknbbaaaa
namespace Go.Proofs.Ytcalipoknbbaaaa
open Go.RowKit Go.ChangeShapes Go.WideShapes

theorem plain5 : plainT Try.prog 5 5 = true := by kernel_rfl
theorem plain125 : plainT Try.prog 5 125 = true := by kernel_rfl
theorem u8_gen {P : Program} {t : TypeId} (hu : P.underlying t = some (.int .u8)) {w : World} {r : Reach} {base : Nat} {v : Value} (h : Value.okWide P w r base t v) : ∃ x : Nat, v = .int .u8 x ∧ x < 256 := by
  unfold Value.okWide at h
  rw [hu] at h
  simp only at h
  unfold Cell.okWide at h
  rw [hu] at h
  cases v <;> simp [Cell.ok, hu] at h
  obtain ⟨rfl, hb⟩ := h
  rename_i m
  simp [IntKind.has, IntKind.min, IntKind.max, IntKind.signed, IntKind.bits] at hb
  exact ⟨m.toNat, by congr 1; omega, by omega⟩
theorem u16_gen {P : Program} {t : TypeId} (hu : P.underlying t = some (.int .u16)) {w : World} {r : Reach} {base : Nat} {v : Value} (h : Value.okWide P w r base t v) : ∃ x : Nat, v = .int .u16 x ∧ x < 65536 := by
  unfold Value.okWide at h
  rw [hu] at h
  simp only at h
  unfold Cell.okWide at h
  rw [hu] at h
  cases v <;> simp [Cell.ok, hu] at h
  obtain ⟨rfl, hb⟩ := h
  rename_i m
  simp [IntKind.has, IntKind.min, IntKind.max, IntKind.signed, IntKind.bits] at hb
  exact ⟨m.toNat, by congr 1; omega, by omega⟩
theorem u8_of {w : World} {r : Reach} {base : Nat} {v : Value} : Value.okWide Try.prog w r base 5 v → ∃ x : Nat, v = .int .u8 x ∧ x < 256 := u8_gen Try.underlying5
theorem u16_of {w : World} {r : Reach} {base : Nat} {v : Value} : Value.okWide Try.prog w r base 125 v → ∃ x : Nat, v = .int .u16 x ∧ x < 65536 := u16_gen Try.underlying125

/-! five galleries by numbers -/
theorem plainB5 : plainT Try.prog 5 107 = true := by kernel_rfl
theorem cells107 : Try.prog.cellTypes Try.prog.depth 107 = some (List.replicate 20 5) := by kernel_rfl
theorem size107 : Try.prog.cellsOf 107 = 20 := by kernel_rfl
theorem by5_gen {P : Program} {n e : Nat} (hu : P.underlying 107 = some (.array n e)) (hu5 : P.underlying 5 = some (.int .u8)) (hc : P.cellTypes P.depth 107 = some (List.replicate 20 5)) (hsz0 : P.cellsOf 107 = 20)
    {w : World} {r : Reach} {base : Nat} {v : Value} (h : Value.okWide P w r base 107 v) : ∃ l : List By, v = .agg (flatB l).toArray ∧ l.length = 5 ∧ ∀ x ∈ l, okB x := by
  obtain ⟨cs, rfl, hsz, hrow⟩ := okWide_row (.inr ⟨_, _, hu⟩) h
  rw [hsz0] at hsz
  have hb := cells_u8 hu5 hc (by omega) hsz hrow
  obtain ⟨l, hl⟩ : ∃ l, cs.toList = l := ⟨_, rfl⟩
  have hll : l.length = 20 := by rw [← hl]; simpa using hsz
  have hv : ∀ v ∈ l, ∃ x : Nat, v = .int .u8 x ∧ x < 256 := by
    intro v hv
    obtain ⟨i, hi, e⟩ := List.getElem_of_mem hv
    refine hb i v ?_
    rw [← Array.getElem?_toList, hl, List.getElem?_eq_getElem hi, e]
  obtain ⟨ls, e1, e2, e3⟩ := bytes_of l 5 (by omega) hv
  exact ⟨ls, by rw [← e2, ← hl], e1, e3⟩
theorem by5_of {w : World} {r : Reach} {base : Nat} {v : Value} : Value.okWide Try.prog w r base 107 v → ∃ l : List By, v = .agg (flatB l).toArray ∧ l.length = 5 ∧ ∀ x ∈ l, okB x :=
  by5_gen Try.underlying107 Try.underlying5 cells107 size107
/-- galleries by numbers in memory -/
def ByAt (W : World) (B t : Nat) (l : List By) : Prop := W.heap[B]? = some (.cells (flatB l).toArray t (0, 0))
theorem ByAt.new (w : World) (t : Nat) (l : List By) : ByAt (w.alloc (.cells (flatB l).toArray t)) w.heap.size t l := heap_alloc_new w _
theorem ByAt.below {w w' : World} {B t : Nat} {l : List By} (h : ByAt w B t l) {N : Nat} (hN : B < N) (hb : Below N w w') : ByAt w' B t l := (hb.block B hN).trans h
theorem ByAt.at {W : World} {B t : Nat} {l : List By} (h : ByAt W B t l) (i : Nat) (d : By) (hi : i < l.length) :
    W.cell? ⟨B, i * 4, none⟩ = some (.int .u8 (l.getD i d).1) ∧ W.cell? ⟨B, i * 4 + 1, none⟩ = some (.int .u8 (l.getD i d).2.1) ∧
    W.cell? ⟨B, i * 4 + 2, none⟩ = some (.int .u8 (l.getD i d).2.2.1) ∧ W.cell? ⟨B, i * 4 + 3, none⟩ = some (.int .u8 (l.getD i d).2.2.2) := by
  obtain ⟨c0, c1, c2, c3⟩ := flatB_get l i d hi
  refine ⟨?_, ?_, ?_, ?_⟩ <;> rw [cell_of_row _ B _ _ t (0, 0) h, List.getElem?_toArray] <;> assumption
end Go.Proofs.Ytcalipoknbbaaaa
