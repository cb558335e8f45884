/- The reckoner: regions that draw their order: whatever the order, it ends as in the order of the text. -/
import Derived.Test.YtcllgicphjmamaaGreatKv11
namespace Go.Proofs.YtcllgicphjmamaaGreat.ev
noncomputable section
open Go.RowKit
set_option linter.unusedSimpArgs false
set_option linter.unusedVariables false
set_option linter.unusedSectionVars false
variable [Kn]

/-! what goes before what -/
def maskOf (acc : List Nat) (o : Oper) : Nat := o.after.toList.foldl (fun s e => if Region.binds .any e then s ||| (1 <<< e.on) ||| acc.getD e.on 0 else s) 0
def closL : List Oper → List Nat → List Nat
  | [], acc => acc
  | o :: l, acc => closL l (acc ++ [maskOf acc o])
theorem closL_spec : ∀ (l : List Oper) (acc : List Nat), (closL l acc).length = acc.length + l.length ∧ (closL l acc).take acc.length = acc ∧ ∀ j o, l[j]? = some o → (closL l acc).getD (acc.length + j) 0 = maskOf ((closL l acc).take (acc.length + j)) o
  | [], acc => ⟨by simp [closL], by simp [closL], fun j o h => by simp at h⟩
  | o :: l, acc => by
    obtain ⟨h1, h2, h3⟩ := closL_spec l (acc ++ [maskOf acc o])
    simp only [List.length_append, List.length_cons, List.length_nil, Nat.zero_add] at h1 h2 h3
    refine ⟨by simp only [closL, h1, List.length_cons]; omega, ?_, fun j o' hj => ?_⟩
    · have := congrArg (List.take acc.length) h2
      simpa [closL, List.take_take] using this
    · cases j with
      | zero =>
        simp only [List.getElem?_cons_zero, Option.some.injEq] at hj
        subst hj
        have ht : (closL l (acc ++ [maskOf acc o])).take acc.length = acc := by
          have := congrArg (List.take acc.length) h2
          simpa [List.take_take] using this
        simp only [closL, Nat.add_zero, ht]
        have := congrArg (fun x => x.getD acc.length 0) h2
        simp [List.getD_eq_getElem?_getD, List.getElem?_take] at this
        simpa [List.getD_eq_getElem?_getD] using this
      | succ j =>
        have := h3 j o' (by simpa using hj)
        simp only [closL]
        rw [show acc.length + (j + 1) = acc.length + 1 + j by omega]
        exact this
theorem mask_bit {acc : List Nat} {o : Oper} {i : Nat} (h : (maskOf acc o).testBit i = true) : ∃ e ∈ o.after.toList, Region.binds .any e = true ∧ (e.on = i ∨ (acc.getD e.on 0).testBit i = true) := by
  unfold maskOf at h
  have key : ∀ (l : List Edge) (s : Nat), (l.foldl (fun s e => if Region.binds .any e then s ||| (1 <<< e.on) ||| acc.getD e.on 0 else s) s).testBit i = true → s.testBit i = true ∨ ∃ e ∈ l, Region.binds .any e = true ∧ (e.on = i ∨ (acc.getD e.on 0).testBit i = true) := by
    intro l
    induction l with
    | nil => intro s hs; exact .inl hs
    | cons e l ih =>
      intro s hs
      simp only [List.foldl_cons] at hs
      rcases ih _ hs with h1 | ⟨e', he', hb⟩
      · by_cases hb : Region.binds .any e = true
        · rw [if_pos hb] at h1
          simp only [Nat.testBit_or, Bool.or_eq_true] at h1
          rcases h1 with (h1 | h1) | h1
          · exact .inl h1
          · refine .inr ⟨e, by simp, hb, .inl ?_⟩
            rw [Nat.one_shiftLeft, Nat.testBit_two_pow] at h1
            simpa using h1
          · exact .inr ⟨e, by simp, hb, .inr h1⟩
        · rw [if_neg hb] at h1; exact .inl h1
      · exact .inr ⟨e', by simp [he'], hb⟩
  rcases key _ 0 h with h | h
  · simp at h
  · exact h
def Listed (L : Array Bool) (j : Nat) : Prop := L.getD j true = true
/-- what is listed comes with what it waits for -/
def Closed (ops : Array Oper) (L : Array Bool) : Prop := ∀ (j : Nat) (o : Oper), ops.toList[j]? = some o → Listed L j → ∀ e ∈ o.after.toList, Region.binds .any e = true → Listed L e.on
theorem bits_listed {ops : Array Oper} {L : Array Bool} (hC : Closed ops L) (hb : ∀ (j : Nat) (o : Oper), ops.toList[j]? = some o → ∀ e ∈ o.after.toList, Region.binds .any e = true → e.on < j) :
    ∀ (j : Nat) (o : Oper), ops.toList[j]? = some o → (∀ e ∈ o.after.toList, Region.binds .any e = true → Listed L e.on) → ∀ i, ((closL ops.toList []).getD j 0).testBit i = true → Listed L i := by
  intro j
  induction j using Nat.strongRecOn with
  | _ j ih =>
    intro o ho hp i hi
    obtain ⟨h1, _, h3⟩ := closL_spec ops.toList []
    have := h3 j o ho
    simp only [List.length_nil, Nat.zero_add] at this h1
    rw [this] at hi
    obtain ⟨e, he, hbe, hc⟩ := mask_bit hi
    have hlt := hb j o ho e he hbe
    rcases hc with rfl | hc
    · exact hp e he hbe
    · have hj : j < ops.toList.length := (List.getElem?_eq_some_iff.1 ho).1
      have hg : ((closL ops.toList []).take j).getD e.on 0 = (closL ops.toList []).getD e.on 0 := by
        simp [List.getD_eq_getElem?_getD, List.getElem?_take, hlt]
      rw [hg] at hc
      obtain ⟨o', ho'⟩ : ∃ o', ops.toList[e.on]? = some o' := ⟨_, List.getElem?_eq_getElem (by omega)⟩
      exact ih e.on hlt o' ho' (hC e.on o' ho' (hp e he hbe)) i hc

/-! what is asked of a region's text -/
def forcedAt (C : List Nat) (j : Nat) : Bool := Nat.beq (Nat.land (C.getD j 0) (2 ^ j - 1)) (2 ^ j - 1)
theorem forcedAt_bit {C : List Nat} {j : Nat} (h : forcedAt C j = true) : ∀ i, i < j → (C.getD j 0).testBit i = true := by
  intro i hi
  have h1 : C.getD j 0 &&& (2 ^ j - 1) = 2 ^ j - 1 := Nat.eq_of_beq_eq_true h
  have h2 := congrArg (fun x => x.testBit i) h1
  simp only [Nat.testBit_and, Nat.testBit_two_pow_sub_one, hi, decide_true, Bool.and_true] at h2
  exact h2
def dstIs (o : Oper) (t : Nat) : Bool := Option.rec (motive := fun _ => Bool) false (fun d => Nat.beq d t) o.dst
theorem dstIs_of {o : Oper} {t : Nat} (h : o.dst = some t) : dstIs o t = true := by
  unfold dstIs; rw [h]; simp
def dstOk (l : List Oper) (n : Nat) : Bool := l.all fun o => match o.dst with
  | some d => Nat.blt d n
  | none => true
def pairOk (C : List Nat) (i j : Nat) : Bool := match Nat.beq i j with
  | true => true
  | false => match Nat.blt i j with
    | true => (C.getD j 0).testBit i
    | false => (C.getD i 0).testBit j
def oneDst (l : List (Oper × Nat)) (j : Nat) : Option Tmp → Bool
  | some d => l.all fun q => match dstIs q.1 d with
    | false => true
    | true => Nat.beq q.2 j
  | none => true
def lookAll (C : List Nat) (l : List (Oper × Nat)) (j : Nat) : List Nat → Bool
  | [] => true
  | t :: ts => match l.all fun q => match dstIs q.1 t with
      | false => true
      | true => pairOk C q.2 j with
    | true => lookAll C l j ts
    | false => false
theorem lookAll_mem {C : List Nat} {l : List (Oper × Nat)} {j : Nat} : ∀ {ts : List Nat}, lookAll C l j ts = true → ∀ t ∈ ts, ∀ q ∈ l, dstIs q.1 t = true → pairOk C q.2 j = true
  | [], h, t, ht => by simp at ht
  | u :: ts, h, t, ht => by
    simp only [lookAll] at h
    split at h
    · rename_i hu
      rcases List.mem_cons.1 ht with rfl | ht
      · intro q hq hd
        have := List.all_eq_true.1 hu q hq
        simp only [hd] at this
        exact this
      · exact lookAll_mem h t ht
    · cases h
def lookOk (ops : Array Oper) (C : List Nat) (p : Nat) : Bool := (ops.toList.take p).zipIdx.all fun a => match oneDst (ops.toList.take p).zipIdx a.2 a.1.dst with
  | true => lookAll C (ops.toList.take p).zipIdx a.2 (a.1.looksAt ops)
  | false => false
def backOk (l : List Oper) : Bool := l.zipIdx.all fun p => !isSelect p.1.op && p.1.after.toList.all fun e => !Region.binds .any e || Nat.blt e.on p.2
def drawOK (P : Program) (ops : Array Oper) (n p : Nat) : Bool :=
  P.follows .mixedOrders && dstOk ops.toList n && lookOk ops (closL ops.toList []) p && backOk ops.toList && (List.range ops.toList.length).all fun j => Nat.blt j p || forcedAt (closL ops.toList []) j
/-- how many operations need not wait for all before them -/
def freeN (ops : Array Oper) : Nat :=
  ops.toList.length - ((((List.range ops.toList.length).map (forcedAt (closL ops.toList []))).reverse).takeWhile id).length
structure Text (P : Program) (ops : Array Oper) (n p : Nat) : Prop where
  mixed : P.follows .mixedOrders = true
  dlt : ∀ (j : Nat) (o : Oper) (d : Nat), ops.toList[j]? = some o → o.dst = some d → d < n
  duq : ∀ (i j : Nat) (o o' : Oper) (d : Nat), i < p → j < p → ops.toList[i]? = some o → ops.toList[j]? = some o' → o.dst = some d → o'.dst = some d → i = j
  look : ∀ (j i : Nat) (o o' : Oper) (t : Nat), i < p → j < p → ops.toList[j]? = some o → ops.toList[i]? = some o' → t ∈ o.looksAt ops → o'.dst = some t → i = j ∨ (i < j ∧ ((closL ops.toList []).getD j 0).testBit i = true) ∨ (j < i ∧ ((closL ops.toList []).getD i 0).testBit j = true)
  sel : ∀ (j : Nat) (o : Oper), ops.toList[j]? = some o → ∀ cs b, o.op ≠ .select cs b
  back : ∀ (j : Nat) (o : Oper), ops.toList[j]? = some o → ∀ e ∈ o.after.toList, Region.binds .any e = true → e.on < j
  forced : ∀ j, p ≤ j → j < ops.toList.length → ∀ i, i < j → ((closL ops.toList []).getD j 0).testBit i = true
theorem blt_lt {a b : Nat} (h : Nat.blt a b = true) : a < b := by
  have : a + 1 ≤ b := by simpa [Nat.blt] using h
  omega
theorem text_of {P : Program} {ops : Array Oper} {n p : Nat} (h : drawOK P ops n p = true) : Text P ops n p := by
  unfold drawOK at h
  simp only [Bool.and_eq_true] at h
  obtain ⟨⟨⟨⟨h1, h2⟩, h3⟩, h4⟩, h5⟩ := h
  have mem : ∀ {j : Nat} {o : Oper}, ops.toList[j]? = some o → (o, j) ∈ ops.toList.zipIdx := fun h => List.mem_zipIdx_iff_getElem?.2 h
  have mem2 : ∀ {j : Nat} {o : Oper}, j < p → ops.toList[j]? = some o → (o, j) ∈ (ops.toList.take p).zipIdx := fun hj h => List.mem_zipIdx_iff_getElem?.2 (by rw [List.getElem?_take, if_pos hj]; exact h)
  have row : ∀ {j : Nat} {o : Oper}, j < p → ops.toList[j]? = some o → oneDst (ops.toList.take p).zipIdx j o.dst = true ∧ lookAll (closL ops.toList []) (ops.toList.take p).zipIdx j (o.looksAt ops) = true := fun {j o} hj ho => by
    have := List.all_eq_true.1 h3 _ (mem2 hj ho)
    split at this
    · rename_i h; exact ⟨h, this⟩
    · cases this
  refine ⟨h1, fun j o d ho hd => ?_, fun i j o o' d hi hj ho ho' hd hd' => ?_, fun j i o o' t hi hj ho ho' ht hd => ?_, fun j o ho cs b e => ?_, fun j o ho e he hb => ?_, fun j hj hl i hi => ?_⟩
  · have := List.all_eq_true.1 h2 o (List.mem_of_getElem? ho)
    simp only [hd] at this
    exact blt_lt this
  · have := (row hj ho').1
    rw [hd'] at this
    have := List.all_eq_true.1 this _ (mem2 hi ho)
    simp only [dstIs_of hd] at this
    exact Nat.eq_of_beq_eq_true this
  · have := lookAll_mem (row hj ho).2 t ht _ (mem2 hi ho') (dstIs_of hd)
    unfold pairOk at this
    split at this
    · rename_i hb; exact .inl (Nat.eq_of_beq_eq_true hb)
    · rename_i hb
      split at this
      · rename_i hlt; exact .inr (.inl ⟨blt_lt hlt, this⟩)
      · rename_i hlt
        refine .inr (.inr ⟨?_, this⟩)
        have h1 : ¬ i < j := fun h => by
          have : Nat.blt i j = true := by simp [Nat.blt]; omega
          rw [this] at hlt; cases hlt
        have h2 : i ≠ j := fun h => by rw [h] at hb; simp at hb
        omega
  · have := List.all_eq_true.1 h4 _ (mem ho)
    simp [e, isSelect] at this
  · have := List.all_eq_true.1 h4 _ (mem ho)
    simp only [Bool.and_eq_true] at this
    have := List.all_eq_true.1 this.2 e he
    simp only [hb, Bool.not_true, Bool.false_or] at this
    exact blt_lt this
  · have := List.all_eq_true.1 h5 j (by simpa using hl)
    simp only [Bool.or_eq_true] at this
    rcases this with a | a
    · have := blt_lt a; omega
    · exact forcedAt_bit a i hi

/-! the operations that may come in any order -/
def qV (P : Program) (ih : Ih) (all : Array Oper) : List Oper → Ts → St → Option (Ts × St)
  | [], ts, σ => some (ts, σ)
  | o :: rest, ts, σ => if wantedV all ts o then match opV P ih ts { σ with wr := 65536 } o with
      | some (v, s1) => if σ.size ≤ s1.wr then qV P ih all rest (putV ts o.dst v) { s1 with wr := min σ.wr s1.wr } else none
      | none => none
    else qV P ih all rest (putV ts o.dst undef) σ
def QStep (P : Program) (ih : Ih) (all : Array Oper) (o : Oper) (ts : Ts) (σ : St) (v : Value) (ts' : Ts) (σ' : St) : Prop :=
  ts' = putV ts o.dst v ∧ ((wantedV all ts o = true ∧ ∃ s1, opV P ih ts { σ with wr := 65536 } o = some (v, s1) ∧ σ.size ≤ s1.wr ∧ σ' = { s1 with wr := min σ.wr s1.wr }) ∨ (wantedV all ts o = false ∧ v = undef ∧ σ' = σ))
theorem qV_run {P : Program} {ih : Ih} {all : Array Oper} : ∀ (l : List Oper) (ts : Ts) (σ : St) (ts' : Ts) (σ' : St), qV P ih all l ts σ = some (ts', σ') →
    ∃ (tf : Nat → Ts) (sf : Nat → St) (vf : Nat → Value), tf 0 = ts ∧ sf 0 = σ ∧ tf l.length = ts' ∧ sf l.length = σ' ∧ ∀ j o, l[j]? = some o → QStep P ih all o (tf j) (sf j) (vf j) (tf (j + 1)) (sf (j + 1))
  | [], ts, σ, ts', σ', h => by
    simp [qV] at h
    obtain ⟨rfl, rfl⟩ := h
    exact ⟨fun _ => ts, fun _ => σ, fun _ => undef, rfl, rfl, rfl, rfl, fun j o h => by simp at h⟩
  | o :: rest, ts, σ, ts', σ', h => by
    have build : ∀ (v : Value) (ts1 : Ts) (s1 : St), QStep P ih all o ts σ v ts1 s1 → qV P ih all rest ts1 s1 = some (ts', σ') →
        ∃ (tf : Nat → Ts) (sf : Nat → St) (vf : Nat → Value), tf 0 = ts ∧ sf 0 = σ ∧ tf (o :: rest).length = ts' ∧ sf (o :: rest).length = σ' ∧ ∀ j o', (o :: rest)[j]? = some o' → QStep P ih all o' (tf j) (sf j) (vf j) (tf (j + 1)) (sf (j + 1)) := by
      intro v ts1 s1 hq hr
      obtain ⟨tf, sf, vf, a1, a2, a3, a4, a5⟩ := qV_run rest ts1 s1 ts' σ' hr
      refine ⟨fun j => match j with | 0 => ts | j + 1 => tf j, fun j => match j with | 0 => σ | j + 1 => sf j, fun j => match j with | 0 => v | j + 1 => vf j, rfl, rfl, a3, a4, fun j o' hj => ?_⟩
      cases j with
      | zero =>
        simp at hj
        subst hj
        show QStep P ih all o ts σ v (tf 0) (sf 0)
        rw [a1, a2]; exact hq
      | succ j => exact a5 j o' (by simpa using hj)
    simp only [qV] at h
    split at h
    · rename_i hw
      split at h
      · rename_i v s1 ho
        split at h
        · rename_i hs
          exact build v _ _ ⟨rfl, .inl ⟨hw, s1, ho, hs, rfl⟩⟩ h
        · cases h
      · cases h
    · rename_i hw
      exact build undef _ _ ⟨rfl, .inr ⟨by simpa using hw, rfl, rfl⟩⟩ h
structure Keeps (σ σ' : St) : Prop where
  size : σ.size ≤ σ'.size
  wr : σ'.wr ≤ σ.wr
  same : ∀ k, k < σ.size → σ'.getB k = σ.getB k
  wf : WfB σ → WfB σ'
theorem Keeps.refl (σ : St) : Keeps σ σ := ⟨Nat.le_refl _, Nat.le_refl _, fun _ _ => rfl, fun h => h⟩
theorem Keeps.trans {a b c : St} (h : Keeps a b) (k : Keeps b c) : Keeps a c :=
  ⟨Nat.le_trans h.size k.size, Nat.le_trans k.wr h.wr, fun i hi => (k.same i (Nat.lt_of_lt_of_le hi h.size)).trans (h.same i hi), fun w => k.wf (h.wf w)⟩
theorem QStep.keeps {P : Program} {ih : Ih} (hC : CanonOk ih) {all : Array Oper} {o : Oper} {ts ts' : Ts} {σ σ' : St} {v : Value} (h : QStep P ih all o ts σ v ts' σ') : Keeps σ σ' := by
  obtain ⟨_, ⟨_, s1, h1, h2, rfl⟩ | ⟨_, _, rfl⟩⟩ := h
  · have hc := canon_op hC h1
    exact ⟨hc.size, Nat.min_le_left _ _, fun k hk => hc.same k hk (Nat.lt_of_lt_of_le hk h2), fun hw => hc.wf hw⟩
  · exact Keeps.refl _
theorem Rel.up {μ : Mu} {σ σ' : St} {w : World} (h : Rel μ σ w) (hk : Keeps σ σ') (hf : Fresh μ σ σ') : Rel μ σ' w := by
  have hwf := hk.wf h.wf
  have down : ∀ k B L, σ'.getB k = some B → μ k = some L → σ.getB k = some B := fun k B L hB hL => by
    rcases Nat.lt_or_ge k σ.size with h1 | h1
    · rw [← hk.same k h1]; exact hB
    · rw [hf k h1 (hwf k B hB)] at hL; cases hL
  exact ⟨hwf, fun k B L hB hL => h.blk k B L (down k B L hB hL) hL, fun k k' B B' L L' h1 h2 hne h3 h4 h5 => h.apart k k' B B' L L' (down _ _ _ h1 h3) (down _ _ _ h2 h4) hne h3 h4 h5⟩
theorem Rel.down {μ : Mu} {σ σ' : St} {w : World} (h : Rel μ σ' w) (hk : Keeps σ σ') (hw : WfB σ) : Rel μ σ w := by
  have up : ∀ k B, σ.getB k = some B → σ'.getB k = some B := fun k B hB => by rw [hk.same k (hw k B hB)]; exact hB
  exact ⟨hw, fun k B L hB hL => h.blk k B L (up k B hB) hL, fun k k' B B' L L' h1 h2 hne h3 h4 h5 => h.apart k k' B B' L L' (up _ _ h1) (up _ _ h2) hne h3 h4 h5⟩
end
end Go.Proofs.YtcllgicphjmamaaGreat.ev
