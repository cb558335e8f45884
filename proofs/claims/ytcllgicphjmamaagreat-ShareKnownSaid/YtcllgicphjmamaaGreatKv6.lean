/- The reckoner's append, copy, len. -/
import Derived.Test.YtcllgicphjmamaaGreatKv5
import Derived.Lib.AppendZeros
namespace Go.Proofs.YtcllgicphjmamaaGreat.ev
noncomputable section
open Go.RowKit
set_option linter.unusedSimpArgs false
set_option linter.unusedVariables false
set_option linter.unusedSectionVars false

theorem exec_builtin {ρ : Operand → Value} {o : Oper} {c : Call} {b : Builtin} (ho : o.op = .call c) (hc : c.callee = .builtin b) : ∃ cs, execOp ρ o = builtin b c.argTypes o.type cs (c.args.map ρ) := by
  have h : execOp ρ o = (do let d ← resolve ρ c o.type; invoke d.target d.args) := by simp only [execOp, ho]
  rw [h]
  unfold resolve
  rw [hc]
  exact ⟨_, rfl⟩
/-- the first n elements of a slice -/
def rowOf (σ : St) (x : Value) (size n : Nat) : Option (List Value) :=
  if n = 0 then some [] else
  match x with
  | .slice (some ⟨k, o, none⟩) m _ => if n ≤ m then match σ.getB k with
      | some B => if o + n * size ≤ B.cells.length then some ((B.cells.drop o).take (n * size)) else none
      | none => none
    else none
  | _ => none
theorem rowOf_rel {μ : Mu} {σ : St} {w : World} {x x' : Value} {size n : Nat} {xs : List Value} (hR : Rel μ σ w) (hx : VRel μ x x') (h : rowOf σ x size n = some xs) :
    ∃ xs', xs'.length = n * size ∧ LRel μ xs xs' ∧ xs.length = n * size ∧ (0 < n → ∃ b o m c, x' = .slice (some ⟨b, o, none⟩) m c ∧ w.rangeAt b o xs') := by
  unfold rowOf at h
  split at h
  · rename_i h0
    simp only [Option.some.injEq] at h
    subst h
    exact ⟨[], by simp [h0], .nil, by simp [h0], fun hp => by omega⟩
  · rename_i h0
    split at h
    · rename_i k o m c
      split at h
      · rename_i hnm
        split at h
        · rename_i B hB
          split at h
          · rename_i hlen
            simp only [Option.some.injEq] at h
            subst h
            obtain ⟨L, hL, hxx⟩ := slc_inv hx
            obtain ⟨xs', h1, h2, h3⟩ := (hR.blk k B L hB hL).range o (n * size) hlen
            refine ⟨xs', h1, h2, by simp; omega, fun hp => ?_⟩
            rcases hxx with ⟨_, hxx⟩ | ⟨_, c', _, _, hxx⟩ | ⟨_, hm, _⟩
            · exact ⟨_, _, _, _, hxx, h3⟩
            · exact ⟨_, _, _, _, hxx, h3⟩
            · omega
          · cases h
        · cases h
      · cases h
    · cases h
theorem run_append_zero {P : Program} {w : World} {t ty e : TypeId} {i : TypeInfo} (ht : P.underlying t = some (.slice e)) (hi : P.info? e = some i) (q xq : Option Addr) (l c xc : Nat) (hl : l ≤ c) :
    (Builtin.append_ #[t, t] ty #[.slice q l c, .slice xq 0 xc]).run P w = .ok (.slice q l c) w := by
  have hf : ∀ size, (Builtin.firstCells size 0 (.slice xq 0 xc)).run P w = .ok #[] w := fun size => by
    cases xq with
    | none => simp [Builtin.firstCells]
    | some a => simp [Builtin.firstCells, loadCells, loadCellsFrom]
  cases q with
  | none => simp [Builtin.append_, run_underlying ht, sizeOf, typeInfo, hi, Builtin.lenOf, hl, hf]
  | some a => simp [Builtin.append_, run_underlying ht, sizeOf, typeInfo, hi, Builtin.lenOf, hl, hf, storeCells]
theorem run_append_in {P : Program} {w w' : World} {t ty e : TypeId} {i : TypeInfo} (ht : P.underlying t = some (.slice e)) (hi : P.info? e = some i) (b o l c : Nat) (a : Addr) (n xc : Nat) (news : List Value) (hl : news.length = n * i.size) (hnews : ∀ j u, news[j]? = some u → w.cell? (a.add j) = some u)
    (hroom : l + n ≤ c) (hst : (storeCells ⟨b, o + l * i.size, none⟩ news).run P w = .ok () w') :
    (Builtin.append_ #[t, t] ty #[.slice (some ⟨b, o, none⟩) l c, .slice (some a) n xc]).run P w = .ok (.slice (some ⟨b, o, none⟩) (l + n) c) w' := by
  have hf := run_firstCells_some (P := P) w i.size n a n xc news hl hnews
  simp [Builtin.append_, run_underlying ht, sizeOf, typeInfo, hi, Builtin.lenOf, hroom, hf, Addr.add_lit, hst]
def appendV (P : Program) (σ : St) (t : TypeId) (s x : Value) : Option (Value × St) :=
  match P.underlying t with
  | some (.slice e) => match P.info? e with
    | some i => match i.zero with
      | some z => match s, x with
        | .slice q l c, .slice xq n xc =>
          if z.cells.size = i.size ∧ 0 < i.size ∧ i.bytes ≤ 1000000 ∧ l + n ≤ 1000000 then
            if n = 0 then (if c = opn ∨ l ≤ c then some (.slice q l c, σ) else none)
            else match rowOf σ (.slice xq n xc) i.size n with
              | none => none
              | some xs => match q with
                | none => if l = 0 ∧ c = 0 then (newP σ xs i.size).map fun p => (.slice (some ⟨p.1, 0, none⟩) n opn, p.2) else none
                | some ⟨k, o, none⟩ =>
                  if c < opn then
                    if l + n ≤ c then match σ.getB k with
                      | some B => if B.tip = true ∧ o + l * i.size + xs.length ≤ B.cells.length ∧ xs.all (·.oneCell') = true then
                          forceL (B.cells.take (o + l * i.size) ++ xs ++ B.cells.drop (o + l * i.size + xs.length)) fun cs => some (.slice (some ⟨k, o, none⟩) (l + n) c, σ.write k B cs) else none
                      | none => none
                    else match rowOf σ (.slice (some ⟨k, o, none⟩) l c) i.size l with
                      | some olds => (newP σ (olds ++ xs) i.size).map fun p => (.slice (some ⟨p.1, 0, none⟩) (l + n) opn, p.2)
                      | none => none
                  else if c = opn then match σ.getB k with
                    | some B => if B.tip = true ∧ B.esz = i.size ∧ xs.all (·.oneCell') = true then
                        if o + l * i.size = B.cells.length then
                          (if σ.size < 65536 then forceL (B.cells.drop o ++ xs) fun cs => some (.slice (some ⟨σ.size, 0, none⟩) (l + n) opn, σ.cont k B cs) else none)
                        else if o + l * i.size + xs.length ≤ B.cells.length then
                          forceL (B.cells.take (o + l * i.size) ++ xs ++ B.cells.drop (o + l * i.size + xs.length)) fun cs => some (.slice (some ⟨k, o, none⟩) (l + n) opn, σ.write k B cs)
                        else none
                      else none
                    | none => none
                  else none
                | _ => none
          else none
        | _, _ => none
      | none => none
    | none => none
  | _ => none
/-- what append does, as a run -/
def DoesV (P : Program) (μ : Mu) (σ : St) (w : World) (s : Sem Value) (r : Value) (σ' : St) : Prop :=
  ∃ μ' r' w', s.run P w = .ok r' w' ∧ VRel μ' r r' ∧ Rel μ' σ' w' ∧ Step μ μ' σ σ' w w'
theorem rel_row {μ : Mu} {xs xs' zs : List Value} (h : LRel μ xs xs') : LRel μ xs ((xs'.toArray ++ zs.toArray).toList.take xs.length) := by
  have := h.length
  simp [this]
  exact h
theorem growV {P : Program} {μ : Mu} {σ σ' : St} {w : World} {k n esz cap : Nat} {all all' : List Value} {zs : Array Value} {e : TypeId} (hR : Rel μ σ w) (hn : newP σ all esz = some (k, σ')) (hf : ∀ j, σ.size ≤ j → j < σ'.size → μ j = none) (hall : LRel μ all all') (hcap : n ≤ cap) (hsz : all'.length + zs.size = cap * esz) :
    ∃ μ', VRel μ' (.slice (some ⟨k, 0, none⟩) n opn) (.slice (some ⟨w.heap.size, 0, none⟩) n cap) ∧ Rel μ' σ' (w.drew.alloc (.cells (all'.toArray ++ zs) e)) ∧ Step μ μ' σ σ' w (w.drew.alloc (.cells (all'.toArray ++ zs) e)) := by
  have hl := hall.length
  obtain ⟨rfl, g1, g2⟩ := newP_does (P := P) (w1 := w.drew.alloc (.cells (all'.toArray ++ zs) e)) hR hn hf e (c := all'.toArray ++ zs) (by simp [hl]) (by simpa using rel_row (zs := zs.toList) hall) rfl rfl rfl rfl
  refine ⟨_, ?_, g1, g2⟩
  have := VRel.slo (μ := μ.add σ.size ⟨w.heap.size, 0, (all'.toArray ++ zs).size, esz⟩) σ.size 0 n cap ⟨w.heap.size, 0, (all'.toArray ++ zs).size, esz⟩ (Mu.add_self _ _ _) hcap (by simp; omega)
  simpa using this
theorem appendV_does {P : Program} {μ : Mu} {σ σ' : St} {w : World} {t ty : TypeId} {s s' x x' r : Value} (hR : Rel μ σ w) (hs : VRel μ s s') (hx : VRel μ x x') (he : appendV P σ t s x = some (r, σ')) (hf : ∀ j, σ.size ≤ j → j < σ'.size → μ j = none) :
    DoesV P μ σ w (Builtin.append_ #[t, t] ty #[s', x']) r σ' := by
  unfold appendV at he
  simp only [forceL_eq] at he
  split at he
  case h_2 => cases he
  rename_i e ht
  split at he
  case h_2 => cases he
  rename_i i hi
  split at he
  case h_2 => cases he
  rename_i z hz
  split at he
  case h_2 => cases he
  rename_i q l c xq n xc
  split at he
  case isFalse => cases he
  rename_i hc
  obtain ⟨hzs, hpos, hby, hlen⟩ := hc
  split at he
  · -- nothing is appended
    rename_i hn
    subst hn
    split at he
    · rename_i hcl
      simp only [Option.some.injEq, Prod.mk.injEq] at he
      obtain ⟨rfl, rfl⟩ := he
      have hx' : ∃ xq' xc', x' = .slice xq' 0 xc' := by cases hx <;> exact ⟨_, _, rfl⟩
      obtain ⟨xq', xc', rfl⟩ := hx'
      have hs' : ∃ q' c', s' = .slice q' l c' ∧ l ≤ c' := by
        cases hs with
        | sc v h =>
          refine ⟨q, c, rfl, ?_⟩
          rcases hcl with rfl | hcl
          · cases q <;> simp [scalar] at h
            unfold opn at *
            omega
          · exact hcl
        | slc k o n c L h hc => exact ⟨_, _, rfl, by unfold opn at *; omega⟩
        | slo k o n c L h hn hs => exact ⟨_, _, rfl, hn⟩
        | sle k o o' L h hs => exact ⟨_, _, rfl, Nat.le_refl _⟩
      obtain ⟨q', c', rfl, hlc⟩ := hs'
      exact ⟨μ, _, w, run_append_zero ht hi q' xq' l c' xc' hlc, hs, hR, Step.refl _ _ _⟩
    · cases he
  · rename_i hn
    have hn0 : 0 < n := by omega
    split at he
    case h_1 => cases he
    rename_i xs hxs
    obtain ⟨xs', x1, x2, x3, x4⟩ := rowOf_rel hR hx hxs
    obtain ⟨xb, xo, xm, xc', rfl, x5⟩ := x4 hn0
    have hxm : xm = n := by cases hx <;> rfl
    subst hxm
    have hnews : ∀ j u, xs'[j]? = some u → w.cell? ((⟨xb, xo, none⟩ : Addr).add j) = some u := fun j u hj => by rw [Addr.add_mid]; exact x5 j u hj
    have hone := ones_rel x2
    have h63 : ((l + xm : Nat) : Int) ≤ 9223372036854775807 := by omega
    have hbytes : (l + xm) * i.bytes ≤ 140737488355328 := Nat.le_trans (Nat.mul_le_mul hlen hby) (by decide)
    split at he
    · -- nil
      split at he
      · rename_i hlc
        obtain ⟨rfl, rfl⟩ := hlc
        simp only [Option.map_eq_some_iff, Prod.exists, Prod.mk.injEq] at he
        obtain ⟨k, s1, hnp, rfl, rfl⟩ := he
        have hs' : s' = .slice none 0 0 := scalar_eq (by rfl) hs
        subst hs'
        have hge := grownCap_ge w xm 0 e
        obtain ⟨μ', g0, g1, g2⟩ := growV (P := P) (e := e) (n := xm) (cap := grownCap w xm 0 e) (zs := Builtin.zeroCells z.cells (grownCap w xm 0 e - xm)) hR hnp hf x2 hge (by rw [size_zeroCells, hzs, x1, ← Nat.add_mul, Nat.add_sub_cancel' hge])
        exact ⟨μ', _, _, run_append_nil (P := P) w t ty e i z ht hi hz ⟨xb, xo, none⟩ xm xc' xs' x1 hnews hn0 (by omega) (by
          have : xm * i.bytes ≤ (0 + xm) * i.bytes := by simp
          omega), g0, g1, g2⟩
      · cases he
    · rename_i k o
      obtain ⟨L, hL, hss⟩ := slc_inv hs
      split at he
      · rename_i hcop
        have hs' : s' = .slice (some ⟨L.blk, o + L.sh, none⟩) l c := by
          rcases hss with ⟨_, h⟩ | ⟨h, _⟩ | ⟨h, _⟩
          · exact h
          · omega
          · omega
        subst hs'
        split at he
        · -- in its place
          rename_i hroom
          split at he
          case h_2 => cases he
          rename_i B hB
          split at he
          case isFalse => cases he
          rename_i hcc
          obtain ⟨htip, hfit, hall⟩ := hcc
          simp only [Option.some.injEq, Prod.mk.injEq] at he
          obtain ⟨rfl, rfl⟩ := he
          obtain ⟨w', g1, g2, g3⟩ := write_does (P := P) (off := o + l * i.size) hR hB hL htip xs xs' x2 hfit hall
          rw [show o + l * i.size + L.sh = o + L.sh + l * i.size by omega] at g1
          exact ⟨μ, _, w', run_append_in ht hi L.blk (o + L.sh) l c ⟨xb, xo, none⟩ xm xc' xs' x1 hnews hroom g1, .slc k o (l + xm) c L hL hcop, g2, g3⟩
        · rename_i hroom
          split at he
          case h_2 => cases he
          rename_i olds holds
          simp only [Option.map_eq_some_iff, Prod.exists, Prod.mk.injEq] at he
          obtain ⟨k1, s1, hnp, rfl, rfl⟩ := he
          obtain ⟨os', y1, y2, y3, y4⟩ := rowOf_rel hR hs holds
          have hcell : ∀ j v, os'[j]? = some v → w.cell? ((⟨L.blk, o + L.sh, none⟩ : Addr).add j) = some v := by
            intro j v hj
            by_cases hl0 : l = 0
            · have : os' = [] := List.length_eq_zero_iff.1 (by rw [y1, hl0]; simp)
              rw [this] at hj; simp at hj
            · obtain ⟨b2, o2, m2, c2, e2, e3⟩ := y4 (by omega)
              cases e2
              rw [Addr.add_mid]; exact e3 j v hj
          have hge := grownCap_ge w (l + xm) c e
          have hrun := run_append_grow (P := P) w t ty e i z ht hi hz ⟨L.blk, o + L.sh, none⟩ l c os' y1 hcell ⟨xb, xo, none⟩ xm xc' xs' x1 hnews (by omega) h63 (growslice_fits (by omega) hbytes)
          rw [show os'.toArray ++ xs'.toArray = (os' ++ xs').toArray by simp] at hrun
          obtain ⟨μ', g0, g1, g2⟩ := growV (P := P) (e := e) (n := l + xm) (cap := grownCap w (l + xm) c e) (zs := Builtin.zeroCells z.cells (grownCap w (l + xm) c e - (l + xm))) hR hnp hf (y2.append x2) hge (by rw [size_zeroCells, hzs, List.length_append, x1, y1, ← Nat.add_mul, ← Nat.add_mul, Nat.add_sub_cancel' hge])
          exact ⟨μ', _, _, hrun, g0, g1, g2⟩
      · split at he
        case isFalse => cases he
        rename_i hcop
        subst hcop
        split at he
        case h_2 => cases he
        rename_i B hB
        split at he
        case isFalse => cases he
        rename_i hcc
        obtain ⟨htip, hesz, hall⟩ := hcc
        have hbr := hR.blk k B L hB hL
        obtain ⟨cc, ee, g1, g2, g3, g4, g5⟩ := hbr
        rw [hesz] at g3
        split at he
        · -- at the row's end
          rename_i hend
          split at he
          case isFalse => cases he
          rename_i hlt
          simp only [Option.some.injEq, Prod.mk.injEq] at he
          obtain ⟨rfl, rfl⟩ := he
          have hfr : μ σ.size = none := hf _ (Nat.le_refl _) (by simp [St.cont, St.newS, St.setB])
          have hdrop : LRel μ (B.cells.drop o) (((cc.toList.drop L.sh).take B.cells.length).drop o) := g5.drop o
          have hlo : (B.cells.drop o).length = l * i.size := by simp; omega
          -- new memory
          have grow : ∀ (b : Addr) (sc : Nat) (os' : List Value), s' = .slice (some b) l sc → os'.length = l * i.size → LRel μ (B.cells.drop o) os' → (∀ j v, os'[j]? = some v → w.cell? (b.add j) = some v) → sc < l + xm →
              DoesV P μ σ w (Builtin.append_ #[t, t] ty #[s', .slice (some ⟨xb, xo, none⟩) xm xc']) (.slice (some ⟨σ.size, 0, none⟩) (l + xm) opn) (σ.cont k B (B.cells.drop o ++ xs)) := by
            intro b sc os' hsl hol hor hoc hsc
            subst hsl
            have hge := grownCap_ge w (l + xm) sc e
            have hrun := run_append_grow (P := P) w t ty e i z ht hi hz b l sc os' hol hoc ⟨xb, xo, none⟩ xm xc' xs' x1 hnews hsc h63 (growslice_fits hsc hbytes)
            rw [show os'.toArray ++ xs'.toArray = (os' ++ xs').toArray by simp] at hrun
            have hrel := hor.append x2
            have hll := hrel.length
            have hsz : ((os' ++ xs').toArray ++ Builtin.zeroCells z.cells (grownCap w (l + xm) sc e - (l + xm))).size = grownCap w (l + xm) sc e * i.size := by
              rw [Array.size_append, size_zeroCells, hzs, List.size_toArray, List.length_append, hol, x1, ← Nat.add_mul, ← Nat.add_mul, Nat.add_sub_cancel' hge]
            obtain ⟨q1, q2⟩ := hR.cont_new (w1 := w.drew.alloc (.cells ((os' ++ xs').toArray ++ Builtin.zeroCells z.cells (grownCap w (l + xm) sc e - (l + xm))) e)) hB hL htip hfr hlt (B.cells.drop o ++ xs) _ e (by rw [hsz, hll, List.length_append, hol, x1, ← Nat.add_mul]; exact Nat.mul_le_mul_right _ hge)
              (by simpa using rel_row (zs := (Builtin.zeroCells z.cells (grownCap w (l + xm) sc e - (l + xm))).toList) hrel) rfl rfl rfl rfl
            refine ⟨_, _, _, hrun, ?_, q1, q2⟩
            have := VRel.slo (μ := μ.add σ.size ⟨w.heap.size, 0, ((os' ++ xs').toArray ++ Builtin.zeroCells z.cells (grownCap w (l + xm) sc e - (l + xm))).size, B.esz⟩) σ.size 0 (l + xm) (grownCap w (l + xm) sc e) ⟨w.heap.size, 0, ((os' ++ xs').toArray ++ Builtin.zeroCells z.cells (grownCap w (l + xm) sc e - (l + xm))).size, B.esz⟩ (Mu.add_self _ _ _) hge (by rw [hsz, hesz]; simp)
            simpa using this
          have hcellB : ∀ j v, (((cc.toList.drop L.sh).take B.cells.length).drop o)[j]? = some v → w.cell? ((⟨L.blk, o + L.sh, none⟩ : Addr).add j) = some v := by
            intro j v hj
            rw [Addr.add_mid]
            simp only [List.getElem?_drop, List.getElem?_take] at hj
            split at hj
            · simp [World.cell?, g1]
              rw [show o + L.sh + j = L.sh + (o + j) by omega]
              simpa using hj
            · cases hj
          have hlenB : (((cc.toList.drop L.sh).take B.cells.length).drop o).length = l * i.size := by rw [← hdrop.length]; exact hlo
          rcases hss with ⟨h, _⟩ | ⟨_, c', hn', hs', rfl⟩ | ⟨_, hl0, hs', o', rfl⟩
          · omega
          · by_cases hroom : l + xm ≤ c'
            · -- in its place
              have hle : (l + xm) * i.size ≤ c' * i.size := Nat.mul_le_mul_right _ hroom
              rw [g3] at hs'
              rw [Nat.add_mul] at hle
              have hst := run_storeCells_at P L.blk (o + L.sh + l * i.size) ee xs' 0 cc w g1 (by omega) (by
                rw [hall] at hone
                simpa using hone)
              simp only [Nat.add_zero] at hst
              have hrun := run_append_in (ty := ty) ht hi L.blk (o + L.sh) l c' ⟨xb, xo, none⟩ xm xc' xs' x1 hnews hroom hst
              have hx3 := x3
              obtain ⟨q1, q2⟩ := hR.cont_in hB hL htip hfr hlt o (by omega) (B.cells.drop o ++ xs) (by simp; omega) g1 (c' := (cc.toList.take (o + L.sh + l * i.size) ++ xs' ++ cc.toList.drop (o + L.sh + l * i.size + xs'.length)).toArray) (by simp; omega) (by simp; omega)
                (by
                  intro j hj
                  have : j < min (o + L.sh + l * i.size) cc.size := by omega
                  have h2 : j < min (o + L.sh + l * i.size) cc.size + xs'.length := by omega
                  have h3 : j < o + L.sh + l * i.size := by omega
                  simp [List.getElem?_append, List.getElem?_take, this, h2, h3])
                (by
                  have e2 : ((cc.toList.take (o + L.sh + l * i.size) ++ xs' ++ cc.toList.drop (o + L.sh + l * i.size + xs'.length)).toArray.toList.drop (L.sh + o)).take (B.cells.drop o ++ xs).length = ((cc.toList.drop L.sh).take B.cells.length).drop o ++ xs' := by
                    apply List.ext_getElem?
                    intro j
                    simp only [List.toList_toArray, List.getElem?_take, List.getElem?_drop, List.getElem?_append, List.length_take, List.length_append, List.length_drop, Array.length_toList]
                    have hmin : min (o + L.sh + l * i.size) cc.size = L.sh + B.cells.length := by omega
                    have hmin2 : min B.cells.length (cc.size - L.sh) = B.cells.length := by omega
                    rw [hmin, hmin2]
                    by_cases a1 : j < B.cells.length - o
                    · have h1 : L.sh + o + j < L.sh + B.cells.length := by omega
                      have h2 : L.sh + o + j < L.sh + B.cells.length + xs'.length := by omega
                      have h3 : j < B.cells.length - o + xs.length := by omega
                      have h4 : L.sh + o + j < o + L.sh + l * i.size := by omega
                      have h5 : o + j < B.cells.length := by omega
                      simp [a1, h1, h2, h3, h4, h5]
                      congr 1; omega
                    · by_cases a2 : j < B.cells.length - o + xs.length
                      · have h1 : ¬ L.sh + o + j < L.sh + B.cells.length := by omega
                        have h2 : L.sh + o + j < L.sh + B.cells.length + xs'.length := by omega
                        have h3 : L.sh + o + j - (L.sh + B.cells.length) = j - (B.cells.length - o) := by omega
                        simp [a1, a2, h1, h2, h3]
                      · rw [if_neg a2, if_neg a1]
                        rw [List.getElem?_eq_none (by omega)]
                  rw [e2]
                  exact hdrop.append x2)
              refine ⟨_, _, _, hrun, ?_, q1, q2⟩
              have := VRel.slo (μ := μ.add σ.size ⟨L.blk, L.sh + o, L.size, L.esz⟩) σ.size 0 (l + xm) c' ⟨L.blk, L.sh + o, L.size, L.esz⟩ (Mu.add_self _ _ _) hroom (by simp only [g3]; omega)
              simpa [Nat.add_comm] using this
            · exact grow ⟨L.blk, o + L.sh, none⟩ c' _ rfl hlenB hdrop hcellB (by omega)
          · subst hl0
            refine grow ⟨L.blk, o', none⟩ 0 _ rfl hlenB hdrop (fun j v hj => ?_) (by omega)
            have : ((cc.toList.drop L.sh).take B.cells.length).drop o = [] := List.length_eq_zero_iff.1 (by rw [hlenB]; simp)
            rw [this] at hj
            simp at hj
        · split at he
          case isFalse => cases he
          rename_i hend hfit
          simp only [Option.some.injEq, Prod.mk.injEq] at he
          obtain ⟨rfl, rfl⟩ := he
          obtain ⟨w', f1, f2, f3⟩ := write_does (P := P) (off := o + l * i.size) hR hB hL htip xs xs' x2 hfit hall
          rw [show o + l * i.size + L.sh = o + L.sh + l * i.size by omega] at f1
          rcases hss with ⟨h, _⟩ | ⟨_, c', hn', hs', rfl⟩ | ⟨_, hl0, hs', o', rfl⟩
          · omega
          · have hroom : l + xm ≤ c' := by
              rw [g3] at hs'
              have : (l + xm) * i.size ≤ c' * i.size := by rw [Nat.add_mul]; omega
              exact Nat.le_of_mul_le_mul_right this hpos
            exact ⟨μ, _, w', run_append_in ht hi L.blk (o + L.sh) l c' ⟨xb, xo, none⟩ xm xc' xs' x1 hnews hroom f1, .slo k o (l + xm) c' L hL hroom hs', f2, f3⟩
          · exfalso
            subst hl0
            have : 0 < xm * i.size := Nat.mul_pos hn0 hpos
            omega
    · cases he
end
/-- append of zeros that make laid, to a list that is nil -/
noncomputable def zerosV (P : Program) (σ : St) (t t2 : TypeId) (s x : Value) : Option (Value × St) :=
  match P.underlying t, P.underlying t2 with
  | some (.slice e), some (.int _) => match P.info? e with
    | some i => match i.zero with
      | some z => match s, x with
        | .slice none 0 0, .int _ n =>
          if z.cells.size = i.size ∧ 0 < i.size ∧ i.bytes ≤ 1000000 ∧ 0 < n ∧ n ≤ 1000000 ∧ flatL (Builtin.zeroCells z.cells n.toNat).toList = true then
            (newP σ (Builtin.zeroCells z.cells n.toNat).toList i.size).map fun p => (.slice (some ⟨p.1, 0, none⟩) n.toNat opn, p.2)
          else none
        | _, _ => none
      | none => none
    | none => none
  | _, _ => none
theorem zerosV_does {P : Program} {μ : Mu} {σ σ' : St} {w : World} {t t2 ty : TypeId} {s s' x x' r : Value} (hR : Rel μ σ w) (hs : VRel μ s s') (hx : VRel μ x x') (he : zerosV P σ t t2 s x = some (r, σ')) (hf : ∀ j, σ.size ≤ j → j < σ'.size → μ j = none) :
    DoesV P μ σ w (Builtin.append_ #[t, t2] ty #[s', x']) r σ' := by
  unfold zerosV at he
  split at he
  case h_2 => cases he
  rename_i e kn ht htn
  split at he
  case h_2 => cases he
  rename_i i hi
  split at he
  case h_2 => cases he
  rename_i z hz
  split at he
  case h_2 => cases he
  rename_i k n
  split at he
  case isFalse => cases he
  rename_i hc
  obtain ⟨hzs, hpos, hby, hn0, hn1, hfl⟩ := hc
  simp only [Option.map_eq_some_iff, Prod.exists, Prod.mk.injEq] at he
  obtain ⟨k1, s1, hnp, rfl, rfl⟩ := he
  obtain rfl := scalar_eq (by rfl) hs
  obtain rfl := scalar_eq (by rfl) hx
  obtain ⟨m, rfl⟩ : ∃ m : Nat, n = m := ⟨n.toNat, by omega⟩
  rw [Int.toNat_natCast] at *
  have hbytes : m * i.bytes ≤ 281474976710656 := by
    have := Nat.mul_le_mul (show m ≤ 1000000 by omega) hby
    omega
  have hrun := Lib.run_append_nil_zeros (P := P) w t t2 ty e i z k kn ht htn hi hz m (by omega) hpos (by omega) hbytes
  have hge := grownCap_ge w m 0 e
  have e1 : Builtin.zeroCells z.cells m = (Builtin.zeroCells z.cells m).toList.toArray := by simp
  have hlen : (Builtin.zeroCells z.cells m).toList.length = m * i.size := by rw [Array.length_toList, size_zeroCells, hzs]
  obtain ⟨μ', g0, g1, g2⟩ := growV (P := P) (e := e) (n := m) (cap := grownCap w m 0 e) (zs := Builtin.zeroCells z.cells (grownCap w m 0 e - m)) hR hnp hf (flatL_rel μ hfl) hge (by rw [hlen, size_zeroCells, hzs, ← Nat.add_mul, Nat.add_sub_cancel' hge])
  rw [← e1] at g1 g2
  exact ⟨μ', _, _, hrun, g0, g1, g2⟩
end Go.Proofs.YtcllgicphjmamaaGreat.ev
