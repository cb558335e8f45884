/- The reckoner's operations on addresses and slices. -/
import Derived.Test.YtcllgicphjmamaaGreatKv3
namespace Go.Proofs.YtcllgicphjmamaaGreat.ev
noncomputable section
open Go.RowKit
set_option linter.unusedSimpArgs false
set_option linter.unusedVariables false
set_option linter.unusedSectionVars false

/-- operations that only reckon a value -/
theorem does_val {P : Program} {μ : Mu} {σ : St} {w : World} {ρ : Operand → Value} {o : Oper} {r r' : Value} (hR : Rel μ σ w) (hv : VRel μ r r') (hr : (execOp ρ o).run P w = .ok (.value r') w) : Does P μ σ w ρ o r σ :=
  ⟨μ, r', w, _, hr, .inl rfl, hv, hR, Step.refl _ _ _⟩
theorem ptr_inv {μ : Mu} {k o : Nat} {v' : Value} (h : VRel μ (.pointer (some ⟨k, o, none⟩)) v') : ∃ L, μ k = some L ∧ v' = .pointer (some ⟨L.blk, o + L.sh, none⟩) := by
  cases h with
  | sc v h => simp [scalar] at h
  | ptr k o L h => exact ⟨L, h, rfl⟩
theorem int_inv {μ : Mu} {k : IntKind} {n : Int} {v' : Value} (h : VRel μ (.int k n) v') : v' = .int k n := flat_eq (by rfl) h
theorem fieldPlace_run {P : Program} {w : World} {f : Field} {i : TypeInfo} (hi : P.info? f.type = some i) (h0 : i.size ≠ 0) (a : Addr) : (fieldPlace a f).run P w = .ok (a.add f.offset) w := by
  simp [fieldPlace, sizeOf, typeInfo, hi, h0]
def fieldAddrV (P : Program) (s : TypeId) (v : Value) (f : Nat) : Option Value :=
  match P.underlying s, v with
  | some (.struct fs), .pointer (some ⟨k, o, none⟩) =>
    match fs[f]? with
    | some fd => match P.info? fd.type with
      | some i => if i.size = 0 then none else some (.pointer (some ⟨k, o + fd.offset, none⟩))
      | none => none
    | none => none
  | _, _ => none
theorem fieldAddrV_does {P : Program} {μ : Mu} {σ : St} {w : World} {ρ : Operand → Value} {o : Oper} {s : TypeId} {x : Operand} {f : Nat} {v r : Value} (hR : Rel μ σ w) (ho : o.op = .fieldAddr s x f) (hv : VRel μ v (ρ x)) (he : fieldAddrV P s v f = some r) : Does P μ σ w ρ o r σ := by
  unfold fieldAddrV at he
  split at he
  · rename_i fs k off hu
    split at he
    · rename_i fd hfd
      split at he
      · rename_i i hi
        split at he
        · cases he
        · rename_i h0
          simp only [Option.some.injEq] at he
          subst he
          obtain ⟨L, hL, hx⟩ := ptr_inv hv
          refine does_val hR (.ptr k (off + fd.offset) L hL) ?_
          simp [execOp, ho, Instr.fieldAt, run_underlying hu, hfd, Instr.sureAddr, hx, fieldPlace_run hi h0, Addr.add_lit]
          all_goals omega
      · cases he
    · cases he
  · cases he
/-- slices, read -/
theorem slc_inv {μ : Mu} {k o n c : Nat} {v' : Value} (h : VRel μ (.slice (some ⟨k, o, none⟩) n c) v') :
    ∃ L, μ k = some L ∧ ((c < opn ∧ v' = .slice (some ⟨L.blk, o + L.sh, none⟩) n c) ∨ (c = opn ∧ ∃ c', n ≤ c' ∧ o + L.sh + c' * L.esz = L.size ∧ v' = .slice (some ⟨L.blk, o + L.sh, none⟩) n c') ∨ (c = opn ∧ n = 0 ∧ o + L.sh = L.size ∧ ∃ o', v' = .slice (some ⟨L.blk, o', none⟩) 0 0)) := by
  cases h with
  | sc v h => simp [scalar] at h
  | slc k o n c L h hc => exact ⟨L, h, .inl ⟨hc, rfl⟩⟩
  | slo k o n c L h hn hs => exact ⟨L, h, .inr (.inl ⟨rfl, c, hn, hs, rfl⟩)⟩
  | sle k o o' L h hs => exact ⟨L, h, .inr (.inr ⟨rfl, rfl, hs, o', rfl⟩)⟩
def indexAddrV (P : Program) (t : TypeId) (v ix : Value) : Option Value :=
  match ix with
  | .int _ i =>
    match P.underlying t, v with
    | some (.slice e), .slice (some ⟨k, o, none⟩) n _ =>
      match P.info? e with
      | some inf => if 0 ≤ i ∧ i < n then some (.pointer (some ⟨k, o + i.toNat * inf.size, none⟩)) else none
      | none => none
    | some (.array n e), .pointer (some ⟨k, o, none⟩) =>
      match P.info? e with
      | some inf => if 0 ≤ i ∧ i < n then some (.pointer (some ⟨k, o + i.toNat * inf.size, none⟩)) else none
      | none => none
    | _, _ => none
  | _ => none
theorem indexAddrV_does {P : Program} {μ : Mu} {σ : St} {w : World} {ρ : Operand → Value} {o : Oper} {t : TypeId} {x y : Operand} {v u r : Value} (hR : Rel μ σ w) (ho : o.op = .indexAddr t x y) (hv : VRel μ v (ρ x)) (hu : VRel μ u (ρ y)) (he : indexAddrV P t v u = some r) : Does P μ σ w ρ o r σ := by
  unfold indexAddrV at he
  split at he
  · rename_i kd i
    have hy := int_inv hu
    split at he
    · rename_i e k off n c hut
      split at he
      · rename_i inf hi
        split at he
        · rename_i hb
          simp only [Option.some.injEq] at he
          subst he
          obtain ⟨L, hL, hx⟩ := slc_inv hv
          have hpos : 0 < n := by omega
          have hxx : ∃ c', ρ x = .slice (some ⟨L.blk, off + L.sh, none⟩) n c' := by
            rcases hx with ⟨_, hx⟩ | ⟨_, c', _, _, hx⟩ | ⟨_, h0, _⟩
            · exact ⟨_, hx⟩
            · exact ⟨_, hx⟩
            · omega
          obtain ⟨c', hx⟩ := hxx
          refine does_val hR (.ptr k (off + i.toNat * inf.size) L hL) ?_
          simp [execOp, ho, Instr.indexAt, run_underlying hut, hx, hy, asIntOf, hb, sizeOf, typeInfo, hi, Addr.add_lit]
          all_goals omega
        · cases he
      · cases he
    · rename_i n e k off hut
      split at he
      · rename_i inf hi
        split at he
        · rename_i hb
          simp only [Option.some.injEq] at he
          subst he
          obtain ⟨L, hL, hx⟩ := ptr_inv hv
          refine does_val hR (.ptr k (off + i.toNat * inf.size) L hL) ?_
          simp [execOp, ho, Instr.indexAt, run_underlying hut, hx, hy, asIntOf, Instr.sureAddr, hb, sizeOf, typeInfo, hi, Addr.add_lit]
          all_goals omega
        · cases he
      · cases he
    · cases he
  · cases he

/-! slices of slices and of arrays -/
def bnd : Option Value → Option (Option Nat)
  | none => some none
  | some (.int _ i) => if 0 ≤ i then some (some i.toNat) else none
  | some _ => none
/-- low, high, max within a capacity -/
def bounds (len cap : Nat) (lo hi mx : Option Nat) : Option (Nat × Nat × Nat) :=
  if mx.getD cap ≤ cap ∧ hi.getD len ≤ mx.getD cap ∧ lo.getD 0 ≤ hi.getD len ∧ (hi.isSome || mx.isNone) = true then some (lo.getD 0, hi.getD len, mx.getD cap) else none
theorem bnd_run {P : Program} {w : World} {v : Value} {i : Nat} (h : bnd (some v) = some (some i)) (y : Nat) (hy : i ≤ y) (code : BoundsCode) : (Instr.sliceBound v y code).run P w = .ok i w := by
  unfold bnd at h
  split at h
  · rename_i h1; simp at h1
  · rename_i k n h1
    split at h
    · rename_i h0
      simp only [Option.some.injEq] at h1 h
      subst h1; subst h
      have : n ≤ (y : Int) := by omega
      simp [Instr.sliceBound, asIntOf, h0, this]
    · cases h
  · cases h
theorem bounds_run {P : Program} {w : World} {isSlice : Bool} {len cap : Nat} {lo hi mx : Option Value} {lo' hi' mx' : Option Nat} {l h m : Nat} (h1 : bnd lo = some lo') (h2 : bnd hi = some hi') (h3 : bnd mx = some mx') (hb : bounds len cap lo' hi' mx' = some (l, h, m)) :
    (Instr.sliceBounds isSlice len cap lo hi mx).run P w = .ok (l, h, m) w := by
  unfold bounds at hb
  split at hb
  · rename_i hc
    obtain ⟨c1, c2, c3, c4⟩ := hc
    simp only [Option.some.injEq, Prod.mk.injEq] at hb
    obtain ⟨rfl, rfl, rfl⟩ := hb
    have hn : ∀ {x : Option Value} {x' : Option Nat}, bnd x = some x' → (x = none ∧ x' = none) ∨ ∃ v i, x = some v ∧ x' = some i := by
      intro x x' hx
      cases x with
      | none => simp [bnd] at hx; exact .inl ⟨rfl, hx.symm⟩
      | some v =>
        cases v <;> simp [bnd] at hx
        exact .inr ⟨_, _, rfl, hx.2.symm⟩
    rcases hn h1 with ⟨rfl, rfl⟩ | ⟨a, a', rfl, rfl⟩ <;> rcases hn h2 with ⟨rfl, rfl⟩ | ⟨b, b', rfl, rfl⟩ <;> rcases hn h3 with ⟨rfl, rfl⟩ | ⟨c, c', rfl, rfl⟩ <;> simp only [Option.getD_none, Option.getD_some] at c1 c2 c3 ⊢
    · simp [Instr.sliceBounds]
    · simp at c4
    · simp [Instr.sliceBounds, bnd_run (P := P) (w := w) h2 _ c2]
    · simp [Instr.sliceBounds, bnd_run (P := P) (w := w) h2 _ c2, bnd_run (P := P) (w := w) h3 _ c1]
    · simp [Instr.sliceBounds, bnd_run (P := P) (w := w) h1 _ c3]
    · simp at c4
    · simp [Instr.sliceBounds, bnd_run (P := P) (w := w) h2 _ c2, bnd_run (P := P) (w := w) h1 _ c3]
    · simp [Instr.sliceBounds, bnd_run (P := P) (w := w) h2 _ c2, bnd_run (P := P) (w := w) h3 _ c1, bnd_run (P := P) (w := w) h1 _ c3]
  · cases hb
/-- the result of slicing at a known capacity -/
def cutA (k o : Nat) (size l h m : Nat) : Option Value :=
  if m - l < opn then some (.slice (some ⟨k, if m = l then o else o + l * size, none⟩) (h - l) (m - l)) else none
def sliceV (P : Program) (σ : St) (t : TypeId) (v : Value) (lo hi mx : Option Value) : Option Value :=
  match bnd lo, bnd hi, bnd mx with
  | some lo', some hi', some mx' =>
    match P.underlying t, v with
    | some (.array n e), .pointer (some ⟨k, o, none⟩) =>
      match P.info? e with
      | some i => match bounds n n lo' hi' mx' with
        | some (l, h, m) => cutA k o i.size l h m
        | none => none
      | none => none
    | some (.slice e), .slice none 0 0 =>
      match P.info? e with
      | some i => match bounds 0 0 lo' hi' mx' with
        | some (l, h, m) => some (.slice none 0 0)
        | none => none
      | none => none
    | some (.slice e), .slice (some ⟨k, o, none⟩) n c =>
      match P.info? e with
      | some i =>
        if c < opn then
          match bounds n c lo' hi' mx' with
          | some (l, h, m) => cutA k o i.size l h m
          | none => none
        else if c = opn then
          match mx' with
          | some m0 =>
            match bounds n n lo' hi' mx' with
            | some (l, h, m) => if 0 < n then cutA k o i.size l h m else none
            | none => none
          | none =>
            match bounds n n lo' hi' none, σ.getB k with
            | some (l, h, _), some B => if B.esz = i.size then some (.slice (some ⟨k, o + l * i.size, none⟩) (h - l) opn) else none
            | _, _ => none
        else none
      | none => none
    | _, _ => none
  | _, _, _ => none
theorem bnd_rel {μ : Mu} {x x' : Option Value} {r : Option Nat} (h : (x = none ∧ x' = none) ∨ ∃ v v', x = some v ∧ x' = some v' ∧ VRel μ v v') (hb : bnd x = some r) : bnd x' = some r := by
  rcases h with ⟨rfl, rfl⟩ | ⟨v, v', rfl, rfl, hv⟩
  · exact hb
  · cases v <;> simp [bnd] at hb
    rw [int_inv hv]
    simp [bnd, hb]
theorem bounds_wide {len c c' : Nat} {lo hi : Option Nat} {l h m : Nat} (hb : bounds len c lo hi none = some (l, h, m)) (hc : c ≤ c') : bounds len c' lo hi none = some (l, h, c') ∧ l ≤ h ∧ h ≤ c := by
  unfold bounds at *
  split at hb
  · rename_i g
    simp only [Option.getD_none, Option.some.injEq, Prod.mk.injEq] at hb g
    obtain ⟨rfl, rfl, rfl⟩ := hb
    refine ⟨?_, g.2.2.1, g.2.1⟩
    rw [if_pos ⟨by simp, by simp; omega, g.2.2.1, by simp⟩]
    simp
  · cases hb
theorem bounds_max {len c c' m0 : Nat} {lo hi : Option Nat} {l h m : Nat} (hb : bounds len c lo hi (some m0) = some (l, h, m)) (hc : c ≤ c') : bounds len c' lo hi (some m0) = some (l, h, m) ∧ l ≤ h ∧ h ≤ m := by
  unfold bounds at *
  split at hb
  · rename_i g
    simp only [Option.getD_some, Option.some.injEq, Prod.mk.injEq] at hb g
    obtain ⟨rfl, rfl, rfl⟩ := hb
    refine ⟨?_, g.2.2.1, g.2.1⟩
    rw [if_pos ⟨by simp; omega, by simpa using g.2.1, g.2.2.1, by simpa using g.2.2.2⟩]
    simp
  · cases hb
theorem add_if (b o s : Nat) (p : Prop) [Decidable p] (n : Nat) : (if p then some (⟨b, o, none⟩ : Addr) else some ((⟨b, o, none⟩ : Addr).add n)) = some ⟨b, if p then o else o + n, none⟩ := by
  split <;> simp [Addr.add_lit]
theorem sliceV_does {P : Program} {μ : Mu} {σ : St} {w : World} {ρ : Operand → Value} {o : Oper} {t : TypeId} {x : Operand} {lo hi mx : Option Operand} {v r : Value} {lv hv mv : Option Value} (hR : Rel μ σ w) (ho : o.op = .slice t x lo hi mx) (hx : VRel μ v (ρ x))
    (h1 : (lv = none ∧ lo.map ρ = none) ∨ ∃ u u', lv = some u ∧ lo.map ρ = some u' ∧ VRel μ u u') (h2 : (hv = none ∧ hi.map ρ = none) ∨ ∃ u u', hv = some u ∧ hi.map ρ = some u' ∧ VRel μ u u') (h3 : (mv = none ∧ mx.map ρ = none) ∨ ∃ u u', mv = some u ∧ mx.map ρ = some u' ∧ VRel μ u u')
    (he : sliceV P σ t v lv hv mv = some r) : Does P μ σ w ρ o r σ := by
  have hex : (execOp ρ o).run P w = ((Instr.sliceAt t (ρ x) (lo.map ρ) (hi.map ρ) (mx.map ρ)).run P w).andThen fun r w => .ok (.value r) w := by simp [execOp, ho]
  have cut : ∀ (k off sz l h m n : Nat) (L : Loc) (r : Value), μ k = some L → cutA k off sz l h m = some r → VRel μ r (.slice (some ⟨L.blk, if m = l then off + L.sh else off + L.sh + l * sz, none⟩) (h - l) (m - l)) := by
    intro k off sz l h m n L r hL hc
    unfold cutA at hc
    split at hc
    · rename_i hlt
      simp only [Option.some.injEq] at hc
      subst hc
      have := VRel.slc (μ := μ) k (if m = l then off else off + l * sz) (h - l) (m - l) L hL hlt
      have e : (if m = l then off else off + l * sz) + L.sh = if m = l then off + L.sh else off + L.sh + l * sz := by split <;> omega
      rwa [e] at this
    · cases hc
  unfold sliceV at he
  split at he
  · rename_i lo' hi' mx' b1 b2 b3
    have c1 := bnd_rel h1 b1
    have c2 := bnd_rel h2 b2
    have c3 := bnd_rel h3 b3
    split at he
    · rename_i n e k off hu
      split at he
      · rename_i i hi'
        split at he
        · rename_i l h m hb
          obtain ⟨L, hL, hxx⟩ := ptr_inv hx
          refine does_val hR (cut k off i.size l h m 0 L r hL he) ?_
          rw [hex, hxx]
          simp [Instr.sliceAt, run_underlying hu, Instr.sureAddr, bounds_run (P := P) (w := w) (isSlice := false) c1 c2 c3 hb, sizeOf, typeInfo, hi', Addr.add_lit]
          split <;> simp
        · cases he
      · cases he
    · rename_i e hu
      split at he
      · rename_i i hi'
        split at he
        · rename_i l h m hb
          simp only [Option.some.injEq] at he
          subst he
          have hxx := scalar_eq (by rfl) hx
          refine does_val hR (.sc _ rfl) ?_
          have hz : l = 0 ∧ h = 0 ∧ m = 0 := by
            unfold bounds at hb
            split at hb
            · rename_i g
              simp only [Option.some.injEq, Prod.mk.injEq] at hb
              omega
            · cases hb
          obtain ⟨rfl, rfl, rfl⟩ := hz
          rw [hex, hxx]
          simp [Instr.sliceAt, Instr.slice, run_underlying hu, bounds_run (P := P) (w := w) (isSlice := true) c1 c2 c3 hb, sizeOf, typeInfo, hi']
        · cases he
      · cases he
    · rename_i _ e k off n c hu
      split at he
      · rename_i i hi'
        obtain ⟨L, hL, hxx⟩ := slc_inv hx
        split at he
        · rename_i hc
          split at he
          · rename_i l h m hb
            rcases hxx with ⟨_, hxx⟩ | ⟨h0, _⟩ | ⟨h0, _⟩
            · refine does_val hR (cut k off i.size l h m 0 L r hL he) ?_
              rw [hex, hxx]
              simp [Instr.sliceAt, Instr.slice, run_underlying hu, bounds_run (P := P) (w := w) (isSlice := true) c1 c2 c3 hb, sizeOf, typeInfo, hi', Addr.add_lit]
              split <;> simp
            · omega
            · omega
          · cases he
        · split at he
          · rename_i hc
            subst hc
            split at he
            · rename_i m0
              split at he
              · rename_i l h m hb
                split at he
                · rename_i hpos
                  rcases hxx with ⟨h0, _⟩ | ⟨_, c', hn, hs, hxx⟩ | ⟨_, h0, _⟩
                  · omega
                  · obtain ⟨hb', _, _⟩ := bounds_max hb hn
                    refine does_val hR (cut k off i.size l h m 0 L r hL he) ?_
                    rw [hex, hxx]
                    simp [Instr.sliceAt, Instr.slice, run_underlying hu, bounds_run (P := P) (w := w) (isSlice := true) c1 c2 c3 hb', sizeOf, typeInfo, hi', Addr.add_lit]
                    split <;> simp
                  · omega
                · cases he
              · cases he
            · split at he
              · rename_i l h m B hb hB
                split at he
                · rename_i hesz
                  simp only [Option.some.injEq] at he
                  subst he
                  obtain ⟨_, _, _, _, g3, _⟩ := hR.blk k B L hB hL
                  rcases hxx with ⟨h0, _⟩ | ⟨_, c', hn, hs, hxx⟩ | ⟨_, h0, hs, o', hxx⟩
                  · omega
                  · obtain ⟨hb', hlh, hhn⟩ := bounds_wide hb hn
                    have hrun : (execOp ρ o).run P w = .ok (.value (.slice (some ⟨L.blk, if c' = l then off + L.sh else off + L.sh + l * i.size, none⟩) (h - l) (c' - l))) w := by
                      rw [hex, hxx]
                      simp [Instr.sliceAt, Instr.slice, run_underlying hu, bounds_run (P := P) (w := w) (isSlice := true) c1 c2 c3 hb', sizeOf, typeInfo, hi', Addr.add_lit]
                      split <;> simp
                    by_cases hcl : c' = l
                    · rw [if_pos hcl] at hrun
                      have e1 : h - l = 0 := by omega
                      have e2 : c' - l = 0 := by omega
                      rw [e1, e2] at hrun
                      rw [e1]
                      exact does_val hR (.sle k (off + l * i.size) (off + L.sh) L hL (by rw [g3, hesz, hcl] at hs; omega)) hrun
                    · rw [if_neg hcl] at hrun
                      refine does_val hR ?_ hrun
                      have := VRel.slo (μ := μ) k (off + l * i.size) (h - l) (c' - l) L hL (by omega) (by
                        rw [g3, hesz] at *
                        rw [Nat.sub_mul]
                        have : l * i.size ≤ c' * i.size := Nat.mul_le_mul_right _ (by omega)
                        omega)
                      rwa [show off + l * i.size + L.sh = off + L.sh + l * i.size by omega] at this
                  · subst h0
                    obtain ⟨hb', hlh, hhn⟩ := bounds_wide hb (Nat.le_refl 0)
                    obtain rfl : h = 0 := by omega
                    obtain rfl : l = 0 := by omega
                    refine does_val hR (.sle k _ o' L hL (by omega)) ?_
                    rw [hex, hxx]
                    simp [Instr.sliceAt, Instr.slice, run_underlying hu, bounds_run (P := P) (w := w) (isSlice := true) c1 c2 c3 hb', sizeOf, typeInfo, hi', Addr.add_lit]
                · cases he
              · cases he
          · cases he
      · cases he
    · cases he
  · cases he
end
end Go.Proofs.YtcllgicphjmamaaGreat.ev
