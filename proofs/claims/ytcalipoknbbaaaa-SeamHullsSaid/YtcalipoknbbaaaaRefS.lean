/- The reference's search: lists, has, some, Contradict, Wrong, Fewest, Needless, Proves, Ask. -/
import Derived.Test.YtcalipoknbbaaaaRef
import Derived.Test.YtcalipoknbbaaaaComb
import Derived.Test.YtcalipoknbbaaaaClash
import Derived.Test.YtcalipoknbbaaaaSeamp
import Derived.BigQuiet
import Derived.Deep.QuietTactic
namespace Go.Proofs.Ytcalipoknbbaaaa
open Go.RowKit
set_option linter.unusedSimpArgs false
set_option linter.unusedVariables false

/-- values in memory -/
def RowV (w : World) (q : Option Addr) (vs : List Value) : Prop :=
  vs = [] ∨ ∃ b off, q = some ⟨b, off, none⟩ ∧ b < w.heap.size ∧ ∀ i, i < vs.length → w.cell? ⟨b, off + i, none⟩ = vs[i]?
theorem RowV.below {w w' : World} {q : Option Addr} {vs : List Value} (h : RowV w q vs) {N : Nat} (hN : w.heap.size ≤ N) (hb : Below N w w') : RowV w' q vs := by
  rcases h with h | ⟨b, off, e, hz, hc⟩
  · exact .inl h
  · exact .inr ⟨b, off, e, Nat.lt_of_lt_of_le hz hb.size, fun i hi => (hb.cell (p := ⟨b, off + i, none⟩) (Nat.lt_of_lt_of_le hz hN)).trans (hc i hi)⟩
theorem rowV_of_owns {w : World} {base : Nat} {e : TypeId} {v : Value} {vs : List Value} (h : w.ownsRow base e 1 v vs.length vs) : ∃ q cap, v = .slice q vs.length cap ∧ RowV w q vs := by
  have hlt := h.lt
  have hc := fun g hg => h.cells (g := g) hg
  obtain ⟨_, ⟨rfl, hn⟩ | ⟨g, cap, cur, rfl, hb, _⟩⟩ := h
  · exact ⟨none, 0, by rw [hn], .inl (List.eq_nil_of_length_eq_zero hn)⟩
  · refine ⟨_, cap, rfl, .inr ⟨g, 0, rfl, (hlt g rfl).2, fun i hi => ?_⟩⟩
    rw [Nat.zero_add, ← addr_add g i]
    have e := List.getElem?_eq_getElem hi
    rw [e]
    exact hc g rfl _ _ e
/-- pairs of values and lists -/
def InL (R : Value → List Int → Prop) : List Value → List (List Int) → Prop
  | [], [] => True
  | v :: vs, l :: ls => R v l ∧ InL R vs ls
  | _, _ => False
theorem InL.len {R : Value → List Int → Prop} : ∀ {vs : List Value} {ls : List (List Int)}, InL R vs ls → vs.length = ls.length
  | [], [], _ => rfl
  | _ :: _, _ :: _, h => by simp [InL.len h.2]
  | [], _ :: _, h => h.elim
  | _ :: _, [], h => h.elim
theorem InL.mono {R S : Value → List Int → Prop} (hRS : ∀ v l, R v l → S v l) : ∀ {vs : List Value} {ls : List (List Int)}, InL R vs ls → InL S vs ls
  | [], [], _ => trivial
  | _ :: _, _ :: _, h => ⟨hRS _ _ h.1, InL.mono hRS h.2⟩
  | [], _ :: _, h => h.elim
  | _ :: _, [], h => h.elim
theorem InL.app {R : Value → List Int → Prop} : ∀ {vs us : List Value} {ls ks : List (List Int)}, InL R vs ls → InL R us ks → InL R (vs ++ us) (ls ++ ks)
  | [], _, [], _, _, h => h
  | _ :: _, _, _ :: _, _, h, k => ⟨h.1, InL.app h.2 k⟩
  | [], _, _ :: _, _, h, _ => h.elim
  | _ :: _, _, [], _, h, _ => h.elim
theorem InL.get {R : Value → List Int → Prop} : ∀ {vs : List Value} {ls : List (List Int)} (i : Nat), InL R vs ls → i < ls.length → ∃ v, vs[i]? = some v ∧ R v (ls.getD i [])
  | v :: vs, l :: ls, 0, h, _ => ⟨v, rfl, h.1⟩
  | v :: vs, l :: ls, i + 1, h, hi => by
    obtain ⟨u, h1, h2⟩ := InL.get i h.2 (by simpa using hi)
    exact ⟨u, by simpa using h1, by simpa using h2⟩
  | [], [], i, _, hi => by simp at hi
  | [], _ :: _, _, h, _ => h.elim
  | _ :: _, [], _, h, _ => h.elim
theorem InL.all {R : Value → List Int → Prop} {Q : Value → Prop} (hRQ : ∀ v l, R v l → Q v) : ∀ {vs : List Value} {ls : List (List Int)}, InL R vs ls → ∀ v ∈ vs, Q v
  | [], [], _ => by simp
  | v :: vs, l :: ls, h => fun u hu => by
    rcases List.mem_cons.1 hu with rfl | hu
    · exact hRQ _ _ h.1
    · exact InL.all hRQ h.2 u hu
  | [], _ :: _, h => h.elim
  | _ :: _, [], h => h.elim

theorem inL_mem {R S : Value → List Int → Prop} : ∀ {vs : List Value} {ls : List (List Int)}, (∀ v, ∀ l ∈ ls, R v l → S v l) → InL R vs ls → InL S vs ls
  | [], [], _, _ => trivial
  | _ :: _, _ :: _, h, k => ⟨h _ _ (by simp) k.1, inL_mem (fun v l hl => h v l (by simp [hl])) k.2⟩
  | [], _ :: _, _, h => h.elim
  | _ :: _, [], _, h => h.elim
/-- a list of ints in memory, in new memory or where it was handed in -/
def NewI (w : World) (lo : Nat) (qb : Option Addr) (v : Value) (l : List Int) : Prop := ∃ q c, v = .slice q l.length c ∧ RowI w q l ∧ (q = qb ∨ ∀ a, q = some a → lo ≤ a.block)
/-- what lists answers -/
def ManyL (w : World) (qb : Option Addr) (ls : List (List Int)) (e : Ending) (w' : World) : Prop :=
  ∃ q c vs, e = .returned (.slice q vs.length c) ∧ (vs = [] → q = none ∧ c = 0) ∧ RowV w' q vs ∧ InL (NewI w' w.heap.size qb) vs ls ∧ Below w.heap.size w w'
/-- a list of ints that lies beside the row of the call -/
def BesideI (w : World) (lo : Nat) (ob : Option Nat) (v : Value) (l : List Int) : Prop := ∃ q c, v = .slice q l.length c ∧ RowI w q l ∧ ∀ a, q = some a → lo ≤ a.block ∧ some a.block ≠ ob ∧ a.block < w.heap.size

theorem rowI_lt {w : World} {q : Option Addr} {l : List Int} (h : RowI w q l) (hne : l ≠ []) : ∀ a, q = some a → a.block < w.heap.size := by
  intro a ha
  rcases h with h | ⟨b, off, e, hz, _⟩
  · exact absurd h hne
  · rw [e] at ha; injection ha with ha; subst ha; exact hz

theorem info57 : (Try.prog.info? 57).map (fun i => (i.zero, i.size, i.bytes)) = some (some (.slice none 0 0), 1, 24) := by kernel_rfl
/-- appending a whole list of lists to a list of the call's own -/
theorem app_lists (w : World) {ops : Array Oper} {rest : List Oper} {o : Oper} {a : Act} {Q : Exit → Act → World → Prop} (hgd : o.guard = none) (s x : Operand)
    (ho : o.op = .call { callee := .builtin .append, args := #[s, x], argTypes := #[146, 146] }) (base : Nat) (v : Value) (vs vr : List Value) (hs : a.eval s = v)
    (hown : w.ownsRow base 57 1 v vs.length vs) (q : Option Addr) (c : Nat) (hx : a.eval x = .slice q vr.length c) (hq : vr = [] → q = none ∧ c = 0) (hr : RowV w q vr) (h1c : ∀ u ∈ vr, u.oneCell' = true)
    (hl : vs.length + vr.length ≤ 1000000) (hbase : base ≤ w.heap.size)
    (h : ∀ v' w', w'.ownsRow base 57 1 v' (vs ++ vr).length (vs ++ vr) → w.grownBy w' v.ownBlock → (v'.ownBlock = v.ownBlock ∨ v'.ownBlock = some w.heap.size) → (vr = [] → v' = v) → wpList Try.prog ops Q rest (a.put o.dst v') w') :
    wpList Try.prog ops Q (o :: rest) a w := by
  obtain ⟨i0, hi, hz0, hz1, hz2⟩ := info_parts info57
  by_cases h0 : vr = []
  · subst h0
    obtain ⟨rfl, rfl⟩ := hq rfl
    refine wpList_append_own_none hgd s x 146 ho base 57 i0 1 Try.underlying146 hi v vs.length vs hs hown hx ?_
    refine h v w ?_ ⟨rfl, rfl, rfl, Nat.le_refl _, fun _ _ _ => rfl⟩ (.inl rfl) (fun _ => rfl)
    rw [List.append_nil]
    exact hown
  · rcases hr with hr | ⟨b, off, rfl, hz, hc⟩
    · exact absurd hr h0
    · have hpos : 0 < vr.length := List.length_pos_iff.2 h0
      refine wpList_append_blk w hgd s x 146 ho base 57 i0 _ 1 24 Try.underlying146 hi hz0 hz1 hz2 rfl (by decide) v vs.length vs hs hown ⟨b, off, none⟩ vr.length c vr hx (by omega) ?_ h1c (by unfold maxLen; omega) (by omega) hbase hpos ?_
      · intro j u hj
        have hjl : j < vr.length := (List.getElem?_eq_some_iff.1 hj).1
        rw [addr_add_off, hc j hjl]
        exact hj
      · intro v' w' g1 g2 g3
        refine h v' w' ?_ g2 g3 (fun e => absurd e h0)
        rw [List.length_append]
        exact g1
/-- appending a whole list of ints to a list of the call's own -/
theorem app_intsQ (w : World) {ops : Array Oper} {rest : List Oper} {o : Oper} {a : Act} {Q : Exit → Act → World → Prop} (hgd : o.guard = none) (s x : Operand)
    (ho : o.op = .call { callee := .builtin .append, args := #[s, x], argTypes := #[57, 57] }) (base : Nat) (v : Value) (ys xs : List Int) (hs : a.eval s = v)
    (hown : w.ownsRow base 3 1 v ys.length (flatI ys)) (q : Option Addr) (c : Nat) (hx : a.eval x = .slice q xs.length c) (hq : q = none → c = 0) (hr : RowI w q xs)
    (hl : ys.length + xs.length ≤ 1000000) (hbase : base ≤ w.heap.size)
    (h : ∀ v' w', w'.ownsRow base 3 1 v' (ys ++ xs).length (flatI (ys ++ xs)) → w.grownBy w' v.ownBlock → wpList Try.prog ops Q rest (a.put o.dst v') w') :
    wpList Try.prog ops Q (o :: rest) a w := by
  obtain ⟨i0, hi, hz0, hz1, hz2⟩ := info_parts info3
  have hfl := flatI_length xs
  have happ : flatI (ys ++ xs) = flatI ys ++ flatI xs := by simp [flatI]
  cases q with
  | none =>
    have hx0 : xs = [] := by
      rcases hr with h0 | ⟨b, off, e, _⟩
      · exact h0
      · cases e
    subst hx0
    rw [hq rfl] at hx
    refine wpList_append_own_none hgd s x 57 ho base 3 i0 1 Try.underlying57 hi v ys.length (flatI ys) hs hown hx ?_
    refine h v w ?_ ⟨rfl, rfl, rfl, Nat.le_refl _, fun _ _ _ => rfl⟩
    rw [List.append_nil]
    exact hown
  | some ad =>
    refine wpList_append_own w hgd s x 57 ho base 3 i0 _ 1 8 Try.underlying57 hi hz0 hz1 hz2 rfl (by decide) v ys.length (flatI ys) hs hown ad xs.length c (flatI xs) hx (by rw [hfl]; omega) ?_ ?_ (by unfold maxLen; omega) (by omega) hbase ?_
    · intro j u hj
      have hjl : j < xs.length := by rw [← hfl]; exact (List.getElem?_eq_some_iff.1 hj).1
      rcases hr with h0 | ⟨b, off, e, _, hc⟩
      · subst h0; simp at hjl
      · simp only [Option.some.injEq] at e
        subst e
        rw [addr_add_off, hc j hjl, ← flatI_get xs j hjl]
        exact hj
    · intro u hu
      unfold flatI at hu
      obtain ⟨x, _, rfl⟩ := List.mem_map.1 hu
      rfl
    · intro v' w' h1 h2 _
      refine h v' w' ?_ h2
      rw [happ, List.length_append]
      exact h1

/-- the lists that begin with some, and go on from a number -/
def LL (m : Nat) (lo : Int) (k : Nat) (b : List Int) : List (List Int) := (combos m lo k).map (b ++ ·)
theorem LL_zero (m : Nat) (lo : Int) (b : List Int) : LL m lo 0 b = [b] := by cases m <;> simp [LL, combos]
theorem LL_none (lo : Int) (k : Nat) (b : List Int) : LL 0 lo (k + 1) b = [] := by simp [LL, combos]
theorem LL_step (m : Nat) (lo : Int) (k : Nat) (b : List Int) : LL (m + 1) lo (k + 1) b = LL m (lo + 1) k (b ++ [lo]) ++ LL m (lo + 1) (k + 1) b := by
  simp [LL, combos, List.map_map, Function.comp_def]
theorem combos_bd : ∀ (m : Nat) (lo : Int) (k : Nat), (combos m lo k).length ≤ 2 ^ m
  | m, lo, 0 => by
    have : 1 ≤ 2 ^ m := Nat.one_le_two_pow
    cases m <;> simp [combos] <;> exact this
  | 0, lo, k + 1 => by simp [combos]
  | m + 1, lo, k + 1 => by
    have h1 := combos_bd m (lo + 1) k
    have h2 := combos_bd m (lo + 1) (k + 1)
    simp only [combos, List.length_append, List.length_map]
    rw [Nat.pow_succ]
    omega

theorem owns_fresh (w : World) : (w.alloc (.cells #[] 3)).ownsRow w.heap.size 3 1 (.slice (some ⟨w.heap.size, 0, none⟩) 0 0) ([] : List Int).length (flatI []) :=
  World.ownsRow_made (base := w.heap.size) (e := 3) (size := 1) w #[] 0 (Nat.le_refl _) (by decide) rfl
theorem rowI_owns {w : World} {base : Nat} {e : TypeId} {v : Value} {xs : List Int} (h : w.ownsRow base e 1 v xs.length (flatI xs)) : ∃ q cap, v = .slice q xs.length cap ∧ RowI w q xs ∧ (q = none → cap = 0) ∧ ∀ a, q = some a → base ≤ a.block ∧ a.block < w.heap.size := by
  have hlt := h.lt
  have hc := fun g hg => h.cells (g := g) hg
  obtain ⟨_, ⟨rfl, hn⟩ | ⟨g, cap, cur, rfl, hb, _⟩⟩ := h
  · exact ⟨none, 0, by rw [hn], .inl (List.eq_nil_of_length_eq_zero hn), fun _ => rfl, by simp⟩
  · refine ⟨_, cap, rfl, .inr ⟨g, 0, rfl, (hlt g rfl).2, fun i hi => ?_⟩, by simp, fun a ha => ?_⟩
    · rw [Nat.zero_add, ← addr_add g i]
      exact hc g rfl _ _ (flatI_get xs i hi)
    · injection ha with ha; subst ha; exact ⟨hb, (hlt g rfl).2⟩
theorem last_at {b b0 : List Int} {x : Int} (h : b = b0 ++ [x]) : 0 < b.length ∧ b.getD (b.length - 1) 0 = x := by
  subst h
  refine ⟨by simp, ?_⟩
  rw [getD_eq _ _ 0 (by simp)]
  simp
/-- where the next index begins -/
def FromI (b : List Int) (lo : Nat) : Prop := (b = [] ∧ lo = 0) ∨ ∃ b0 x, b = b0 ++ [x] ∧ (lo : Int) = x + 1

/-- what the loop has found -/
def OutL (w wr : World) (v : Value) (ls : List (List Int)) : Prop :=
  ∃ vs, wr.ownsRow w.heap.size 57 1 v vs.length vs ∧ (vs = [] → v = .slice none 0 0) ∧ InL (BesideI wr w.heap.size v.ownBlock) vs ls ∧ Below w.heap.size w wr

/-- behind one round -/
theorem OutL.step {w wr w2 w3 w4 : World} {v v' : Value} {ls ks : List (List Int)} {vs vr : List Value} {b : List Int} {q2 : Option Addr}
    (ho : wr.ownsRow w.heap.size 57 1 v vs.length vs) (hn : vs = [] → v = .slice none 0 0) (hin : InL (BesideI wr w.heap.size v.ownBlock) vs ls) (hb : Below w.heap.size w wr)
    (hb2 : Below wr.heap.size wr w2) (hq2 : ∀ a, q2 = some a → wr.heap.size ≤ a.block ∧ a.block < w2.heap.size) (hne : b ≠ [])
    (hr : InL (NewI w3 w2.heap.size q2) vr ks) (hlen : ∀ k ∈ ks, k ≠ []) (hb3 : Below w2.heap.size w2 w3)
    (ho4 : w4.ownsRow w.heap.size 57 1 v' (vs ++ vr).length (vs ++ vr)) (hg : w3.grownBy w4 v.ownBlock) (hbl : v'.ownBlock = v.ownBlock ∨ v'.ownBlock = some w3.heap.size) (hsame : vr = [] → v' = v) :
    OutL w w4 v' (ls ++ ks) := by
  have s1 := hb.size
  have s2 := hb2.size
  have s3 := hb3.size
  have hb13 : Below wr.heap.size wr w3 := hb2.trans (hb3.mono s2)
  have ho3 := owns_below ho (Nat.le_refl _) hb13
  have hlt := ho.lt
  have s4 : w3.heap.size ≤ w4.heap.size := hg.size
  have hkeep : ∀ (a : Option Addr) (l : List Int), RowI w3 a l → (∀ x, a = some x → some x.block ≠ v.ownBlock ∧ x.block < w3.heap.size) → RowI w4 a l := by
    intro a l h hx
    rcases h with h | ⟨bb, off, e, hz, hc⟩
    · exact .inl h
    · refine .inr ⟨bb, off, e, Nat.lt_of_lt_of_le hz s4, fun i hi => ?_⟩
      rw [hg.cell_far ⟨bb, off + i, none⟩ hz (hx _ e).1]
      exact hc i hi
  have hnew : ∀ x : Nat, x < w3.heap.size → some x ≠ v.ownBlock → some x ≠ v'.ownBlock := by
    intro x hx hne' e
    rcases hbl with h | h
    · exact hne' (by rw [e, h])
    · rw [h] at e; injection e with e; omega
  refine ⟨vs ++ vr, ho4, ?_, ?_, ?_⟩
  · intro e
    obtain ⟨e1, e2⟩ := List.append_eq_nil_iff.1 e
    rw [hsame e2, hn e1]
  · refine InL.app (InL.mono ?_ hin) (inL_mem ?_ hr)
    · rintro u l ⟨q, c, rfl, h1, h2⟩
      have h3 := h1.below (Nat.le_refl _) hb13
      refine ⟨q, c, rfl, hkeep q l h3 (fun x hx => ⟨(h2 x hx).2.1, by have := (h2 x hx).2.2; omega⟩), fun x hx => ?_⟩
      obtain ⟨k1, k2, k3⟩ := h2 x hx
      exact ⟨k1, hnew _ (by omega) k2, by omega⟩
    · rintro u l hl ⟨q, c, rfl, h1, h2⟩
      have hz : ∀ x, q = some x → x.block < w3.heap.size := rowI_lt h1 (hlen l hl)
      have hwr : ∀ x, q = some x → wr.heap.size ≤ x.block := by
        intro x hx
        rcases h2 with h2 | h2
        · rw [h2] at hx; exact (hq2 x hx).1
        · have := h2 x hx; omega
      have hno : ∀ x, q = some x → some x.block ≠ v.ownBlock := by
        intro x hx e
        have := (hlt _ e.symm).2
        have := hwr x hx
        omega
      refine ⟨q, c, rfl, hkeep q l h1 (fun x hx => ⟨hno x hx, hz x hx⟩), fun x hx => ⟨by have := hwr x hx; omega, hnew _ (hz x hx) (hno x hx), by have := hz x hx; omega⟩⟩
  · exact (hb.trans (hb13.mono s1)).trans (grown_below ho3 (by omega) hg)

set_option maxRecDepth 100000 in
set_option maxHeartbeats 4000000 in
theorem lists_any (n many : Nat) (hn : n ≤ 12) (hmb : many ≤ 1000) : ∀ (k : Nat) (b : List Int) (q : Option Addr) (c lo m : Nat) (w : World), b.length + k = many → lo + m = n → FromI b lo → RowI w q b → (q = none → c = 0) →
    Calls Try.prog 109 #[.int .i64 n, .int .i64 many, .slice q b.length c] w (ManyL w q (LL m lo k b)) := by
  intro k
  induction k with
  | zero =>
    intro b q c lo m w hk hm hf hr hq
    have hz : ((b.length : Int) == (many : Int)) = true := by simp; omega
    have hll := LL_zero m lo b
    have HL := Lib.hid hll
    have HR := Lib.hid hr
    clear hll hr
    go_enter Try.func109, Try.ntmps109
    go_wp2
    have hb0 : Below w.heap.size w (w.alloc (.cells #[.slice q b.length c] 57)) := (Below.refl _ _).alloc (Nat.le_refl _) _
    go_ret
    refine ⟨some ⟨w.heap.size, 0, none⟩, 1, [.slice q b.length c], rfl, by simp, .inr ⟨w.heap.size, 0, rfl, by simp, fun i hi => ?_⟩, ?_, hb0⟩
    · obtain rfl : i = 0 := by simpa using hi
      simp
    · rw [HL.out]
      exact ⟨⟨q, c, rfl, HR.out.below (Nat.le_refl _) hb0, .inl rfl⟩, trivial⟩
  | succ k ih =>
    intro b q c lo m w hk hm hf hr hq
    have hz : ((b.length : Int) == (many : Int)) = false := beq_eq_false_iff_ne.2 (by omega)
    have HIH := Lib.hid ih
    have HR := Lib.hid hr
    have HQ := Lib.hid hq
    clear ih hr hq
    rcases hf with ⟨hb, hlo⟩ | ⟨b0, x, hb, hlo⟩
    · have hz2 : decide (0 < b.length) = false := by rw [hb]; rfl
      have HTOT := Lib.hid (combos_bd m lo (k + 1))
      have HLO := Lib.hid hlo
      clear hb hlo
      go_enter Try.func109, Try.ntmps109
      go_wp2
      clear hz hz2
      go_loopw [8, 9] (fun v i wr => ∃ t : Nat, t ≤ m ∧ i = .int .i64 ((lo + t : Nat) : Int) ∧ ∃ ls, ls ++ LL (m - t) ((lo + t : Nat) : Int) (k + 1) b = LL m lo (k + 1) b ∧ OutL w wr v ls) (fun _ i _ => n - (intOf i).toNat)
      case atStart => exact ⟨0, Nat.zero_le _, by rw [HLO.out]; rfl, [], by simp, [], World.ownsRow_nil _ _ _ _, fun _ => rfl, trivial, Below.refl _ _⟩
      case round =>
        obtain ⟨t, ht, rfl, ls, hls, vs, ho, hn0, hin, hb⟩ := hrel
        by_cases htm : t < m
        · obtain ⟨m', hm'⟩ : ∃ m', m - t = m' + 1 := ⟨m - t - 1, by omega⟩
          have hst := LL_step m' ((lo + t : Nat) : Int) k b
          rw [hm', hst, ← List.append_assoc] at hls
          have hlb := congrArg List.length hls
          have htot := HTOT.out
          have hpw : 2 ^ m ≤ 4096 := Nat.pow_le_pow_right (by omega) (show m ≤ 12 by omega)
          have hmem : ∀ l ∈ LL m' (((lo + t : Nat) : Int) + 1) k (b ++ [((lo + t : Nat) : Int)]), l ≠ [] := by
            intro l hl
            simp only [LL, List.mem_map] at hl
            obtain ⟨y, _, rfl⟩ := hl
            simp
          have hbd : ls.length + (LL m' (((lo + t : Nat) : Int) + 1) k (b ++ [((lo + t : Nat) : Int)])).length ≤ 4096 := by
            have e : (LL m lo (k + 1) b).length = (combos m lo (k + 1)).length := by simp [LL]
            rw [e] at hlb
            simp only [List.length_append] at hlb
            omega
          have hvl := hin.len
          have HLS := Lib.hid hls
          have HMEM := Lib.hid hmem
          have HO := Lib.hid ho
          have HN := Lib.hid hn0
          have HIN := Lib.hid hin
          have hs := hb.size
          have hnt : lo + t < n := by omega
          have e9 : ((lo + t : Nat) : Int) + 1 = ((lo + t + 1 : Nat) : Int) := by omega
          rw [e9] at hbd
          have HBD := Lib.hid hbd
          have E9 := Lib.hid e9
          have hbl2 : b.length ≤ 1000 := by omega
          clear hls hmem ho hn0 hin hst hlb htot hpw hbd e9
          obtain ⟨i, hi⟩ : ∃ i, lo + t = i := ⟨_, rfl⟩
          rw [hi]
          rw [hi] at hnt HLS HMEM HBD E9
          have HI := Lib.hid hi
          clear hi
          go_wp2_with (first
            | (at_builtin; refine app_intsQ _ rfl (.tmp 35) (.tmp 36) rfl wr.heap.size _ [] b rfl (owns_fresh wr) q c rfl HQ.out ((HR.out.below (Nat.le_refl _) hb).below (Nat.le_refl _) ((Below.refl _ _).alloc (Nat.le_refl _) _)) (by simp; omega) (by simp) ?_; intro v1 w1 hown1 hgr1; have hb1 : Below wr.heap.size wr w1 := ((Below.refl wr.heap.size wr).alloc (Nat.le_refl _) (.cells #[] 3)).trans (grown_below (owns_fresh wr) (by simp) hgr1); rw [List.nil_append] at hown1)
            | (at_builtin; refine app_int _ rfl (.tmp 37) (.tmp 39) rfl wr.heap.size _ b (i : Int) rfl (hown1.alloc _) w1.heap.size 1 rfl (by simp) (by omega) (by have := hb1.size; simp; omega) ?_; intro v2 w2 hown2 hgr2 hbk2; have hb2 : Below wr.heap.size wr w2 := (hb1.alloc hb1.size (.cells #[.int .i64 i] 3)).trans (grown_below (hown1.alloc _) (by have := hb1.size; simp; omega) hgr2); obtain ⟨q2, c2, rfl, hr2, hq2, hk2⟩ := rowI_owns hown2))
          go_at_call 109
          have hc9 := HIH.out (b ++ [(i : Int)]) q2 c2 (i + 1) m' w2 (by simp; omega) (by have := HI.out; omega) (.inr ⟨b, (i : Int), rfl, by omega⟩) hr2 hq2
          rw [show (b ++ [(i : Int)]).length = b.length + 1 by simp] at hc9
          with_reducible refine hc9.mono ?_
          clear hc9; rintro e w3 ⟨q3, c3, vs3, rfl, hnil, hrow, hinl, hb3⟩
          go_wp2_with (at_builtin; refine app_lists _ rfl (.tmp 32) (.tmp 41) rfl w.heap.size _ vs vs3 rfl (owns_below HO.out (Nat.le_refl _) (hb2.trans (hb3.mono hb2.size))) q3 c3 rfl hnil hrow (InL.all (by rintro u l ⟨q, c, rfl, _⟩; rfl) hinl) (by have := hinl.len; have := HBD.out; omega) (by have := hb2.size; have := hb3.size; omega) ?_; intro v4 w4 hown4 hgr4 hbk4 hsame)
          have hstep := OutL.step (b := b ++ [(i : Int)]) HO.out HN.out HIN.out hb hb2 hk2 (by simp) hinl (by rw [← E9.out]; exact HMEM.out) hb3 hown4 hgr4 hbk4 hsame
          go_roundw
          case rel => exact ⟨t + 1, by omega, by have := HI.out; go_num, _, by have e := HLS.out; rw [E9.out] at e; rw [show m - (t + 1) = m' by omega, show lo + (t + 1) = i + 1 by have := HI.out; omega]; exact e, hstep⟩
          case measure => have := HI.out; simp [intOf]; omega
        · obtain rfl : m = t := by omega
          have hv := hin.len
          obtain ⟨q9, c9, e9, hr9⟩ := rowV_of_owns ho
          have hno : vs = [] → q9 = none ∧ c9 = 0 := by
            intro h
            have := hn0 h
            rw [this] at e9
            injection e9 with e1 _ e2
            exact ⟨e1.symm, e2.symm⟩
          have e0 : ls = LL m lo (k + 1) b := by
            rw [Nat.sub_self, LL_none, List.append_nil] at hls; exact hls
          have hin9 : InL (NewI wr w.heap.size q) vs (LL m lo (k + 1) b) := by
            rw [← e0]
            exact InL.mono (fun v l ⟨q, c, e, hr, hx⟩ => ⟨q, c, e, hr, .inr fun a ha => (hx a ha).1⟩) hin
          have H9 := Lib.hid hin9
          have HR9 := Lib.hid hr9
          have HNO := Lib.hid hno
          subst e9
          clear ho hn0 hin hls hv hr9 hno hin9 e0
          have hmn : ¬ ((lo + m : Nat) : Int) < (n : Int) := by omega
          go_wp2
          go_ret
          exact ⟨q9, c9, vs, rfl, HNO.out, HR9.out, H9.out, hb⟩
    · obtain ⟨hbp, hlast⟩ := last_at hb
      obtain ⟨bb, off, hqe, hbz, hcell⟩ := HR.out.at (k := b.length - 1) (by omega) (Nat.le_refl _) (Below.refl _ w)
      subst hqe
      rw [hlast] at hcell
      have hz2 : decide (0 < b.length) = true := by simp; omega
      have hw1 : IntKind.i64.wrap ((b.length : Int) - 1) = ((b.length - 1 : Nat) : Int) := by rw [IntWalk.i64_in _ ⟨by omega, by omega⟩]; omega
      have hw2 : IntKind.i64.wrap (x + 1) = ((lo : Nat) : Int) := by rw [IntWalk.i64_in _ ⟨by omega, by omega⟩]; omega
      have HTOT := Lib.hid (combos_bd m lo (k + 1))
      have HLO := Lib.hid hlo
      clear hb hlast hlo
      go_enter Try.func109, Try.ntmps109
      go_wp2
      clear hz hz2 hw1 hw2 hcell
      go_loopw [8, 9] (fun v i wr => ∃ t : Nat, t ≤ m ∧ i = .int .i64 ((lo + t : Nat) : Int) ∧ ∃ ls, ls ++ LL (m - t) ((lo + t : Nat) : Int) (k + 1) b = LL m lo (k + 1) b ∧ OutL w wr v ls) (fun _ i _ => n - (intOf i).toNat)
      case atStart => exact ⟨0, Nat.zero_le _, rfl, [], by simp, [], World.ownsRow_nil _ _ _ _, fun _ => rfl, trivial, Below.refl _ _⟩
      case round =>
        obtain ⟨t, ht, rfl, ls, hls, vs, ho, hn0, hin, hb⟩ := hrel
        by_cases htm : t < m
        · obtain ⟨m', hm'⟩ : ∃ m', m - t = m' + 1 := ⟨m - t - 1, by omega⟩
          have hst := LL_step m' ((lo + t : Nat) : Int) k b
          rw [hm', hst, ← List.append_assoc] at hls
          have hlb := congrArg List.length hls
          have htot := HTOT.out
          have hpw : 2 ^ m ≤ 4096 := Nat.pow_le_pow_right (by omega) (show m ≤ 12 by omega)
          have hmem : ∀ l ∈ LL m' (((lo + t : Nat) : Int) + 1) k (b ++ [((lo + t : Nat) : Int)]), l ≠ [] := by
            intro l hl
            simp only [LL, List.mem_map] at hl
            obtain ⟨y, _, rfl⟩ := hl
            simp
          have hbd : ls.length + (LL m' (((lo + t : Nat) : Int) + 1) k (b ++ [((lo + t : Nat) : Int)])).length ≤ 4096 := by
            have e : (LL m lo (k + 1) b).length = (combos m lo (k + 1)).length := by simp [LL]
            rw [e] at hlb
            simp only [List.length_append] at hlb
            omega
          have hvl := hin.len
          have HLS := Lib.hid hls
          have HMEM := Lib.hid hmem
          have HO := Lib.hid ho
          have HN := Lib.hid hn0
          have HIN := Lib.hid hin
          have hs := hb.size
          have hnt : lo + t < n := by omega
          have e9 : ((lo + t : Nat) : Int) + 1 = ((lo + t + 1 : Nat) : Int) := by omega
          rw [e9] at hbd
          have HBD := Lib.hid hbd
          have E9 := Lib.hid e9
          have hbl2 : b.length ≤ 1000 := by omega
          clear hls hmem ho hn0 hin hst hlb htot hpw hbd e9
          obtain ⟨i, hi⟩ : ∃ i, lo + t = i := ⟨_, rfl⟩
          rw [hi]
          rw [hi] at hnt HLS HMEM HBD E9
          have HI := Lib.hid hi
          clear hi
          go_wp2_with (first
            | (at_builtin; refine app_intsQ _ rfl (.tmp 35) (.tmp 36) rfl wr.heap.size _ [] b rfl (owns_fresh wr) (some ⟨bb, off, none⟩) c rfl HQ.out ((HR.out.below (Nat.le_refl _) hb).below (Nat.le_refl _) ((Below.refl _ _).alloc (Nat.le_refl _) _)) (by simp; omega) (by simp) ?_; intro v1 w1 hown1 hgr1; have hb1 : Below wr.heap.size wr w1 := ((Below.refl wr.heap.size wr).alloc (Nat.le_refl _) (.cells #[] 3)).trans (grown_below (owns_fresh wr) (by simp) hgr1); rw [List.nil_append] at hown1)
            | (at_builtin; refine app_int _ rfl (.tmp 37) (.tmp 39) rfl wr.heap.size _ b (i : Int) rfl (hown1.alloc _) w1.heap.size 1 rfl (by simp) (by omega) (by have := hb1.size; simp; omega) ?_; intro v2 w2 hown2 hgr2 hbk2; have hb2 : Below wr.heap.size wr w2 := (hb1.alloc hb1.size (.cells #[.int .i64 i] 3)).trans (grown_below (hown1.alloc _) (by have := hb1.size; simp; omega) hgr2); obtain ⟨q2, c2, rfl, hr2, hq2, hk2⟩ := rowI_owns hown2))
          go_at_call 109
          have hc9 := HIH.out (b ++ [(i : Int)]) q2 c2 (i + 1) m' w2 (by simp; omega) (by have := HI.out; omega) (.inr ⟨b, (i : Int), rfl, by omega⟩) hr2 hq2
          rw [show (b ++ [(i : Int)]).length = b.length + 1 by simp] at hc9
          with_reducible refine hc9.mono ?_
          clear hc9; rintro e w3 ⟨q3, c3, vs3, rfl, hnil, hrow, hinl, hb3⟩
          go_wp2_with (at_builtin; refine app_lists _ rfl (.tmp 32) (.tmp 41) rfl w.heap.size _ vs vs3 rfl (owns_below HO.out (Nat.le_refl _) (hb2.trans (hb3.mono hb2.size))) q3 c3 rfl hnil hrow (InL.all (by rintro u l ⟨q, c, rfl, _⟩; rfl) hinl) (by have := hinl.len; have := HBD.out; omega) (by have := hb2.size; have := hb3.size; omega) ?_; intro v4 w4 hown4 hgr4 hbk4 hsame)
          have hstep := OutL.step (b := b ++ [(i : Int)]) HO.out HN.out HIN.out hb hb2 hk2 (by simp) hinl (by rw [← E9.out]; exact HMEM.out) hb3 hown4 hgr4 hbk4 hsame
          go_roundw
          case rel => exact ⟨t + 1, by omega, by have := HI.out; go_num, _, by have e := HLS.out; rw [E9.out] at e; rw [show m - (t + 1) = m' by omega, show lo + (t + 1) = i + 1 by have := HI.out; omega]; exact e, hstep⟩
          case measure => have := HI.out; simp [intOf]; omega
        · obtain rfl : m = t := by omega
          have hv := hin.len
          obtain ⟨q9, c9, e9, hr9⟩ := rowV_of_owns ho
          have hno : vs = [] → q9 = none ∧ c9 = 0 := by
            intro h
            have := hn0 h
            rw [this] at e9
            injection e9 with e1 _ e2
            exact ⟨e1.symm, e2.symm⟩
          have e0 : ls = LL m lo (k + 1) b := by
            rw [Nat.sub_self, LL_none, List.append_nil] at hls; exact hls
          have hin9 : InL (NewI wr w.heap.size (some ⟨bb, off, none⟩)) vs (LL m lo (k + 1) b) := by
            rw [← e0]
            exact InL.mono (fun v l ⟨q, c, e, hr, hx⟩ => ⟨q, c, e, hr, .inr fun a ha => (hx a ha).1⟩) hin
          have H9 := Lib.hid hin9
          have HR9 := Lib.hid hr9
          have HNO := Lib.hid hno
          subst e9
          clear ho hn0 hin hls hv hr9 hno hin9 e0
          have hmn : ¬ ((lo + m : Nat) : Int) < (n : Int) := by omega
          go_wp2
          go_ret
          exact ⟨q9, c9, vs, rfl, HNO.out, HR9.out, H9.out, hb⟩
end Go.Proofs.Ytcalipoknbbaaaa
namespace Go.Proofs.Ytcalipoknbbaaaa
open Go.RowKit
set_option linter.unusedSimpArgs false
set_option linter.unusedVariables false

theorem hasI_sym (xs : List Int) (x : Int) : hasI xs x = xs.any fun y => y == x := by
  unfold hasI
  congr 1
  funext y
  exact BEq.comm

set_option maxHeartbeats 400000 in
theorem has_any (x : Int) (q : Option Addr) (c : Nat) (xs : List Int) (w : World) (hr : RowI w q xs) (hl : xs.length ≤ 1000000) :
    Calls Try.prog 128 #[.slice q xs.length c, .int .i64 x] w fun e w' => e = .returned (.bool (hasI xs x)) ∧ w = w' := by
  rw [hasI_sym]
  go_enter Try.func128, Try.ntmps128
  go_wp2
  go_loop [5] (fun i => ∃ k : Nat, k ≤ xs.length ∧ i = .int .i64 k ∧ AllNo (fun y => y == x) xs k) (fun i => xs.length - (intOf i).toNat)
  case atStart => exact ⟨0, Nat.zero_le _, rfl, rfl⟩
  case round =>
    obtain ⟨k, hk, rfl, hall⟩ := hrel
    by_cases hlt : k < xs.length
    · obtain ⟨b, off, rfl, hb, h1⟩ := hr.at hlt (Nat.le_refl _) (Below.refl _ w)
      have hst := hall.step hlt 0
      have HS := Lib.hid hst
      clear hst
      generalize xs.getD k 0 = y at h1 HS
      go_wp2
      · have hy : (y == x) = true := by assumption
        have e := firstIdx_any (fun y => y == x) xs
        rw [HS.out.2 hy] at e
        go_ret
        exact ⟨ret_bool (by rw [← e]; simp), rfl⟩
      · have hy : (y == x) = false := by assumption
        go_round
        case rel => exact ⟨k + 1, hlt, by go_num, HS.out.1 hy⟩
        case measure => simp [intOf]; omega
    · obtain rfl : k = xs.length := by omega
      have e := firstIdx_any (fun y => y == x) xs
      rw [hall.all] at e
      go_wp2
      go_ret
      exact ⟨ret_bool (by rw [← e]; simp), rfl⟩

set_option maxRecDepth 100000 in
set_option maxHeartbeats 2000000 in
theorem rsome_any (b : Bool) (n : Int) (q qi : Option Addr) (c ci : Nat) (gs : List Gl) (is : List Int) (w : World) (hr : RowG w q gs) (hq : q = none → c = 0) (hi : RowI w qi is) (hl : gs.length ≤ 1000) (hli : is.length ≤ 1000000) :
    Calls Try.prog 110 #[.agg #[.int .i64 n, .slice q gs.length c], .slice qi is.length ci, .bool b] w (OneG w (sel b is gs)) := by
  have HI := Lib.hid ((Inv.oneH w n q c gs hr hq).addI (hi.below (Nat.le_refl _) ((Below.refl _ _).alloc (Nat.le_refl _) _)))
  have hz : (w.alloc (.cells #[.int .i64 n, .slice q gs.length c] 32)).heap.size = w.heap.size + 1 := by simp
  clear hr hq hi
  go_enter Try.func110, Try.ntmps110
  go_wp2
  generalize (w.alloc (.cells #[.int .i64 n, .slice q gs.length c] 32)) = W0 at *
  go_loopw [7, 8] (fun v i wr => ∃ k : Nat, k ≤ gs.length ∧ i = .int .i64 k ∧ wr.ownsRow W0.heap.size 47 3 v (selTo b is gs k).length (flatG (selTo b is gs k)) ∧ Below W0.heap.size W0 wr) (fun _ i _ => gs.length - (intOf i).toNat)
  case atStart => exact ⟨0, Nat.zero_le _, rfl, by rw [selTo_zero]; exact World.ownsRow_nil _ _ _ _, Below.refl _ _⟩
  case round =>
    obtain ⟨k, hk, rfl, hown, hbel⟩ := hrel
    have HO := Lib.hid hown
    have HJ := Lib.hid (HI.out.go hbel)
    clear hown
    have k1 := HJ.out.c (b := w.heap.size) (o := 1) (v := .slice q gs.length c) (by simp)
    by_cases hlt : k < gs.length
    · obtain ⟨bb, off, rfl, hb, h1, h2, h3⟩ := (HJ.out.1 (q, c, gs) (by simp)).1.at hlt (Nat.le_refl _) (Below.refl _ _)
      have hst := selTo_succ b is gs k hlt (0, 0, 0)
      have hle := selTo_le b is gs k
      generalize gs.getD k (0, 0, 0) = g at *
      obtain ⟨ga, gb, gc⟩ := g
      dsimp only at h1 h2 h3
      have hc := has_any (k : Int) qi ci is wr (HJ.out.2.2.1 (qi, is) (by simp)) hli
      generalize selTo b is gs k = out at *
      generalize hasI is k = y at *
      have HST := Lib.hid hst
      have HC := Lib.hid hc
      have hsz := hbel.size
      clear hst hc
      go_wp2_with (first
        | (go_at_call 128; refine HC.out.mono ?_; rintro e W ⟨rfl, rfl⟩)
        | (at_builtin; refine app_galR _ rfl (.tmp 21) (.tmp 27) rfl W0.heap.size _ _ (ga, gb, gc) rfl (HO.out.alloc _) wr.heap.size 1 rfl (by simp) (by simp) (by simp) (by omega) (by simp; omega) ?_; intro v' w3 hown3 hgrow hblk))
      · have hy : (y == b) = true := by assumption
        have e1 := HST.out
        rw [if_pos hy] at e1
        have hb3 := grown_below (HO.out.alloc (.cells #[.int .i64 ga, .int .i64 gb, .int .i64 gc] 47)) (by simp; omega) hgrow
        go_roundw
        case rel => exact ⟨k + 1, hlt, by go_num, by rw [e1]; exact hown3, (hbel.alloc (by omega) _).trans hb3⟩
        case measure => simp [intOf]; omega
      · have hy : (y == b) = false := by assumption
        have e1 := HST.out
        rw [if_neg (by simp [hy]), List.append_nil] at e1
        go_roundw
        case rel => exact ⟨k + 1, hlt, by go_num, by rw [e1]; exact HO.out, hbel⟩
        case measure => simp [intOf]; omega
    · obtain rfl : k = gs.length := by omega
      have ho := HO.out
      rw [selTo_all] at ho
      obtain ⟨q1, c1, rfl, r1, n1⟩ := owns_cap ho
      have R1 := Lib.hid r1
      have N1 := Lib.hid n1
      clear ho HO r1 n1
      go_wp2
      go_ret
      exact ⟨q1, c1, rfl, R1.out, N1.out, HJ.out.2.2.2.2⟩
end Go.Proofs.Ytcalipoknbbaaaa
namespace Go.Proofs.Ytcalipoknbbaaaa
open Go.RowKit
set_option linter.unusedSimpArgs false
set_option linter.unusedVariables false

/-- the first lists are none that pass -/
def NoneTo (L : List (List Int)) (good : List Int → Bool) (i : Nat) : Prop := ∀ x ∈ L.take i, good x = false
theorem NoneTo.zero (L : List (List Int)) (good : List Int → Bool) : NoneTo L good 0 := by simp [NoneTo]
theorem NoneTo.step {L : List (List Int)} {good : List Int → Bool} {i : Nat} (h : NoneTo L good i) (hi : i < L.length) (hg : good (L.getD i []) = false) : NoneTo L good (i + 1) := by
  intro x hx
  rw [List.take_succ_eq_append_getElem hi, List.mem_append] at hx
  rcases hx with hx | hx
  · exact h x hx
  · obtain rfl : x = L[i] := by simpa using hx
    rw [getD_eq L i [] hi] at hg; exact hg
theorem NoneTo.done {n k : Nat} {good : List Int → Bool} (h : NoneTo (combos n ((0 : Nat) : Int) k) good (combos n ((0 : Nat) : Int) k).length) (hb : NoneBelow n k good) : NoneBelow n (k + 1) good := by
  intro j hj
  by_cases e : j = k
  · subst e; intro x hx; exact h x (by rw [List.take_length]; exact hx)
  · exact hb j (by omega)
theorem NoneTo.hit {n k i : Nat} {good : List Int → Bool} (h : NoneTo (combos n ((0 : Nat) : Int) k) good i) (hb : NoneBelow n k good) (hk : k ≤ n) (hi : i < (combos n ((0 : Nat) : Int) k).length) (hg : good ((combos n ((0 : Nat) : Int) k).getD i []) = true) :
    shortestOf n good = some ((combos n ((0 : Nat) : Int) k).getD i []) := by
  refine shortestOf_hit hk hb (pre := (combos n ((0 : Nat) : Int) k).take i) (rest := (combos n ((0 : Nat) : Int) k).drop (i + 1)) ?_ h hg
  rw [getD_eq _ _ _ hi]
  show combos n ((0 : Nat) : Int) k = _
  conv => lhs; rw [← List.take_append_drop i (combos n ((0 : Nat) : Int) k)]
  congr 1
  exact List.drop_eq_getElem_cons hi
theorem LL_nil (m : Nat) (lo : Int) (k : Nat) : LL m lo k [] = combos m lo k := by simp [LL]
theorem cnt_pos (m : Nat) (hm : 1 ≤ m) (gs : List Gl) : 0 < cnt m (sel true [] gs) := by
  have e : sel true [] gs = [] := by
    unfold sel
    rw [List.map_eq_nil_iff, List.filter_eq_nil_iff]
    intro a _
    simp [hasI]
  rw [e, cnt_reg]
  refine List.length_pos_of_mem (a := ((0 : Int), (0 : Int))) (List.mem_filter.2 ⟨mem_grid.2 ⟨by omega, by omega, by omega, by omega⟩, rfl⟩)

/-- lists in memory -/
def LstsIn (W : World) (q : Option Addr) (vs : List Value) (L : List (List Int)) : Prop :=
  RowV W q vs ∧ InL (fun v l => ∃ q c, v = .slice q l.length c ∧ RowI W q l) vs L
theorem LstsIn.below {W W' : World} {q : Option Addr} {vs : List Value} {L : List (List Int)} (h : LstsIn W q vs L) (hb : Below W.heap.size W W') : LstsIn W' q vs L :=
  ⟨h.1.below (Nat.le_refl _) hb, InL.mono (fun v l ⟨q, c, e, hr⟩ => ⟨q, c, e, hr.below (Nat.le_refl _) hb⟩) h.2⟩
theorem LstsIn.at {W : World} {q : Option Addr} {vs : List Value} {L : List (List Int)} (h : LstsIn W q vs L) {i : Nat} (hi : i < L.length) :
    ∃ b off q5 c5, q = some ⟨b, off, none⟩ ∧ b < W.heap.size ∧ W.cell? ⟨b, off + i, none⟩ = some (.slice q5 (L.getD i []).length c5) ∧ RowI W q5 (L.getD i []) := by
  obtain ⟨v, h1, q5, c5, rfl, h2⟩ := h.2.get i hi
  have hl := h.2.len
  rcases h.1 with h0 | ⟨b, off, e, hz, hc⟩
  · subst h0; simp at h1
  · exact ⟨b, off, q5, c5, e, hz, (hc i (by omega)).trans h1, h2⟩

set_option maxRecDepth 100000 in
set_option maxHeartbeats 4000000 in
theorem rWrong_any (n : Int) (q : Option Addr) (c : Nat) (gs : List Gl) (w : World) (hr : RowG w q gs) (hq : q = none → c = 0) :
    Calls Try.prog 37 #[.agg #[.int .i64 n, .slice q gs.length c]] w (ListErr w (wrongOf n gs)) := by
  have HI := Lib.hid (Inv.oneH w n q c gs hr hq)
  clear hr hq
  obtain ⟨E, hE⟩ : ∃ E, errH n gs = E := ⟨_, rfl⟩
  have HE := Lib.hid hE
  by_cases h0 : E = 0
  · subst h0
    obtain ⟨o1, o2, o3, o4⟩ := errH_ok hE
    obtain ⟨m, rfl⟩ := Int.eq_ofNat_of_zero_le (show 0 ≤ n by omega)
    have hgs := okGs_of o4
    have hm7 : m ≤ 7 := by omega
    have hm1 : 1 ≤ m := by omega
    obtain ⟨good, hgood⟩ : ∃ good : List Int → Bool, good = fun is => decide (0 < cnt m (sel false is gs)) := ⟨_, rfl⟩
    have hres : wrongOf m gs = ((shortestOf gs.length good).getD [], 0) := by rw [hgood, wrongOf, if_neg (by simp [hE]), Int.toNat_natCast]
    rw [hres]
    have hga : ∀ l, good l = decide ((0 : Int) < ((regL m (sel false l gs)).length : Int)) := by
      intro l
      rw [hgood]
      show (decide (0 < cnt m (sel false l gs))) = _
      rw [cnt_reg]
      simp
    have cL : ∀ (k : Nat) (hk : k ≤ 1000) (W : World), Calls Try.prog 109 #[.int .i64 (gs.length : Nat), .int .i64 (k : Nat), .slice none 0 0] W (ManyL W none (LL gs.length ((0 : Nat) : Int) k [])) := fun (k : Nat) (hk : k ≤ 1000) W => lists_any gs.length k (by omega) hk k [] none 0 0 gs.length W (by simp) (by simp) (.inl ⟨rfl, rfl⟩) (.inl rfl) (fun _ => rfl)
    have cS := fun (W : World) (q5 : Option Addr) (c5 : Nat) (l : List Int) (hh : RowG W q gs ∧ (q = none → c = 0)) (hi : RowI W q5 l) (hll : l.length ≤ 1000000) => rsome_any false m q q5 c c5 gs l W hh.1 hh.2 hi (by omega) hll
    have cG := fun (W : World) (q6 : Option Addr) (c6 : Nat) (l : List Int) (h : RowG W q6 (sel false l gs)) => rregion_any m q6 c6 (sel false l gs) W hm7 h (fun g hg => hgs g (sel_mem _ _ _ g hg)) (by have := sel_length false l gs; omega)
    unfold OneG at cS
    unfold OneP at cG
    have HGA := Lib.hid hga
    have HGO := Lib.hid hgood
    have CL := Lib.hid cL
    have CS := Lib.hid cS
    have CG := Lib.hid cG
    have k0 := HI.out.c (b := w.heap.size) (o := 0) (v := .int .i64 m) (by simp)
    have k1 := HI.out.c (b := w.heap.size) (o := 1) (v := .slice q gs.length c) (by simp)
    have h10 : gs.length ≤ 10 := by omega
    clear hres hE o4 hgs hga hgood cL cS cG
    go_enter Try.func37, Try.ntmps37
    go_wp2_with (first
      | (go_at_call 33; refine (HI.out.scalar (V' := .int .i64 0) (rCheck_any m q c gs _ (HI.out.1 (q, c, gs) (by simp)).1) (by rw [HE.out])).mono ?_; rintro e W ⟨rfl, hI⟩; replace HI := Lib.hid hI; clear hI k0 k1; have k0 := HI.out.c (b := w.heap.size) (o := 0) (v := .int .i64 m) (by simp); have k1 := HI.out.c (b := w.heap.size) (o := 1) (v := .slice q gs.length c) (by simp)))
    skip
    go_loopw [5] (fun i wr => ∃ k : Nat, k ≤ gs.length + 1 ∧ 0 ≤ k ∧ i = .int .i64 k ∧ NoneBelow gs.length k good ∧ Inv w wr [(q, c, gs)] [] [] [(w.heap.size, 1, .slice q gs.length c), (w.heap.size, 0, .int .i64 m)]) (fun i _ => gs.length + 1 - (intOf i).toNat)
    case atStart => exact ⟨0, by omega, by omega, rfl, fun j hj => absurd hj (Nat.not_lt_zero j), HI.out⟩
    case round =>
      clear HI
      obtain ⟨k, hk, hk1, rfl, hnb, hI⟩ := hrel
      have HI := Lib.hid hI
      have HNB := Lib.hid hnb
      clear hI hnb
      have k0 := HI.out.c (b := w.heap.size) (o := 0) (v := .int .i64 m) (by simp)
      have k1 := HI.out.c (b := w.heap.size) (o := 1) (v := .slice q gs.length c) (by simp)
      by_cases hlt : k ≤ gs.length
      · have hll := LL_nil gs.length ((0 : Nat) : Int) k
        have HLL := Lib.hid hll
        have hcl := combos_length gs.length ((0 : Nat) : Int) k
        have HCL := Lib.hid hcl
        clear hll hcl
        go_wp2_with fail
        go_at_call 109
        have hc9 := CL.out k (by omega) wr
        with_reducible refine hc9.mono ?_
        clear hc9; rintro e W3 ⟨q3, c3, vs3, rfl, hnil, hrow, hinl, hb3⟩
        go_wp2
        rw [HLL.out] at hinl
        have hL : LstsIn W3 q3 vs3 (combos gs.length ((0 : Nat) : Int) k) := ⟨hrow, InL.mono (fun v l ⟨q, c, e, hr, _⟩ => ⟨q, c, e, hr⟩) hinl⟩
        have hlen := hinl.len
        have HLE := Lib.hid hlen
        have hv9 : vs3.length ≤ 4096 := by
          have h1 := combos_bd gs.length ((0 : Nat) : Int) k
          have h2 : 2 ^ gs.length ≤ 4096 := Nat.pow_le_pow_right (by omega) (show gs.length ≤ 12 by omega)
          omega
        clear hrow hinl hnil k0 k1 hlen
        have HI3 := Lib.hid (HI.out.go hb3)
        have HL3 := Lib.hid hL
        clear hL hb3
        go_loopw [7] (fun i wr => ∃ j : Nat, j ≤ vs3.length ∧ i = .int .i64 j ∧ NoneTo (combos gs.length ((0 : Nat) : Int) k) good j ∧ LstsIn wr q3 vs3 (combos gs.length ((0 : Nat) : Int) k) ∧ Inv w wr [(q, c, gs)] [] [] [(w.heap.size, 1, .slice q gs.length c), (w.heap.size, 0, .int .i64 m)]) (fun i _ => vs3.length - (intOf i).toNat)
        case atStart => exact ⟨0, Nat.zero_le _, rfl, NoneTo.zero _ _, HL3.out, HI3.out⟩
        case round =>
          clear HI HL3 HI3
          obtain ⟨j, hj, rfl, hnt, hL, hI⟩ := hrel
          have HI := Lib.hid hI
          have HL := Lib.hid hL
          have HNT := Lib.hid hnt
          clear hI hL hnt
          by_cases hlt2 : j < vs3.length
          · have hjl : j < (combos gs.length ((0 : Nat) : Int) k).length := by rw [← HLE.out]; exact hlt2
            obtain ⟨bb, off, q5, c5, hqe, hbz, hce, hri⟩ := HL.out.at hjl
            subst hqe
            have hmem := getD_mem (combos gs.length ((0 : Nat) : Int) k) j [] hjl
            have hl5 := HCL.out _ hmem
            have hst := HNT.out.step hjl
            have hit := HNT.out.hit HNB.out hlt hjl
            obtain ⟨l5, hl5e⟩ : ∃ l5, (combos gs.length ((0 : Nat) : Int) k).getD j [] = l5 := ⟨_, rfl⟩
            rw [hl5e] at hce hri hl5 hst hit
            have hgl := HGA.out l5
            obtain ⟨R5, hR5⟩ : ∃ R5, regL m (sel false l5 gs) = R5 := ⟨_, rfl⟩
            rw [hR5] at hgl
            obtain ⟨N5, hN5⟩ : ∃ N5, R5.length = N5 := ⟨_, rfl⟩
            rw [hN5] at hgl
            have HN5 := Lib.hid hN5
            have HR5 := Lib.hid hR5
            have HST := Lib.hid hst
            have HIT := Lib.hid hit
            have HGL := Lib.hid hgl
            have hz5 : l5.length ≤ 1000000 := by omega
            clear hmem hl5e hst hit hgl hR5 hl5 hN5
            have HLT2 := Lib.hid hlt2
            have HID := Lib.hid (HI.out.go (Below.refl _ _).drew)
            have HLD := Lib.hid (HL.out.below (Below.refl _ _).drew)
            have RD := Lib.hid (hri.below (Nat.le_refl _) (Below.refl _ wr).drew)
            have a0 := HI.out.c (b := w.heap.size) (o := 0) (v := .int .i64 m) (by simp)
            have a1 := HI.out.c (b := w.heap.size) (o := 1) (v := .slice q gs.length c) (by simp)
            have b0 := HID.out.c (b := w.heap.size) (o := 0) (v := .int .i64 m) (by simp)
            have b1 := HID.out.c (b := w.heap.size) (o := 1) (v := .slice q gs.length c) (by simp)
            have b2 : wr.drew.cell? ⟨bb, off + j, none⟩ = some (.slice q5 l5.length c5) := hce
            go_upto_region 11 with fail
            go_region_held3 (fun W => W.cell? ⟨w.heap.size, 0, none⟩ = some (.int .i64 m) ∧ W.cell? ⟨w.heap.size, 1, none⟩ = some (.slice q gs.length c) ∧ W.cell? ⟨bb, off + j, none⟩ = some (.slice q5 l5.length c5)) (first | exact ⟨a0, a1, hce⟩ | exact ⟨b0, b1, b2⟩ | exact ⟨d0, d1, d2⟩ | exact ⟨e0, e1, e2⟩ | go_keep)
              (first
              | (go_at_call 110; have hcc := CS.out wr.drew q5 c5 l5 (HID.out.1 (q, c, gs) (by simp)) RD.out hz5; (with_reducible refine hcc.mono ?_); clear hcc; intro e W6 hx; obtain ⟨q6, c6, he, hr6, hn6, hb6⟩ := hx; subst he; clear hn6; have J6 := Lib.hid (HID.out.go hb6); have L6 := Lib.hid (HLD.out.below hb6); have R6 := Lib.hid hr6; have d0 := J6.out.c (b := w.heap.size) (o := 0) (v := .int .i64 m) (by simp); have d1 := J6.out.c (b := w.heap.size) (o := 1) (v := .slice q gs.length c) (by simp); have d2 := (hb6.cell (p := ⟨bb, off + j, none⟩) hbz).trans b2; have Z6 := RD.out.below (Nat.le_refl _) hb6; have RI6 := Lib.hid Z6; have hs6 := hb6.size; clear hr6 hb6 Z6)
              | (go_at_call 99; have hcc := CG.out W6 q6 c6 l5 R6.out; (with_reducible refine hcc.mono ?_); clear hcc; intro e W7 hx; obtain ⟨q7, c7, he, hr7, hb7⟩ := hx; subst he; clear hr7; rw [HR5.out, HN5.out]; have J7 := Lib.hid (J6.out.go hb7); have L7 := Lib.hid (L6.out.below hb7); have e0 := J7.out.c (b := w.heap.size) (o := 0) (v := .int .i64 m) (by simp); have e1 := J7.out.c (b := w.heap.size) (o := 1) (v := .slice q gs.length c) (by simp); have e2 := (hb7.cell (p := ⟨bb, off + j, none⟩) (Nat.lt_of_lt_of_le hbz (by simpa using hs6))).trans d2; have RI7 := Lib.hid (RI6.out.below (Nat.le_refl _) hb7); clear hb7)
              | fail)
            all_goals
              clear a0 a1 hce b0 b1 b2 d0 d1 d2
              go_wp2
            · have hgt : good l5 = true := by
                rw [HGL.out]
                first | assumption | (simp; omega) | (simp; assumption)
              have hit2 := HIT.out hgt
              have HIT2 := Lib.hid hit2
              clear hit2 hgt
              go_ret2
              exact ⟨q5, c5, by rw [HIT2.out]; rfl, by rw [HIT2.out]; exact RI7.out, J7.out.2.2.2.2⟩
            · have hgt : good l5 = false := by
                rw [HGL.out]
                first | assumption | (simp; omega) | (simp; assumption)
              go_roundw
              case rel => exact ⟨j + 1, by have := HLT2.out; omega, by go_num, HST.out hgt, L7.out, J7.out⟩
              case measure => have := HLT2.out; simp [intOf]; omega
          · obtain rfl : j = vs3.length := by omega
            have hd := HNT.out
            rw [HLE.out] at hd
            have hdn := hd.done HNB.out
            have HDN := Lib.hid hdn
            clear hd hdn
            go_wp2
            go_roundw
            case rel => exact ⟨k + 1, by omega, by omega, by go_num, HDN.out, HI.out⟩
            case measure => simp [intOf]; omega
      · obtain rfl : k = gs.length + 1 := by omega
        have hm := shortestOf_miss HNB.out
        have HM := Lib.hid hm
        clear hm
        go_wp2
        go_ret2
        exact ⟨none, 0, by rw [HM.out]; rfl, by rw [HM.out]; exact .inl rfl, HI.out.2.2.2.2⟩
  · have hres : wrongOf n gs = ([], E) := by rw [wrongOf, hE, if_pos h0]
    rw [hres]
    have hb : (E != 0) = true := by simp [h0]
    have hb2 : (E == 0) = false := by simp [h0]
    have k0 := HI.out.c (b := w.heap.size) (o := 0) (v := .int .i64 n) (by simp)
    have k1 := HI.out.c (b := w.heap.size) (o := 1) (v := .slice q gs.length c) (by simp)
    clear hres hE
    go_enter Try.func37, Try.ntmps37
    go_wp2_with (go_at_call 33; refine (HI.out.scalar (V' := .int .i64 E) (rCheck_any n q c gs _ (HI.out.1 (q, c, gs) (by simp)).1) (by rw [HE.out])).mono ?_; rintro e W ⟨rfl, hI⟩; replace HI := Lib.hid hI; clear hI k0 k1)
    go_ret2
    exact ⟨none, 0, rfl, .inl rfl, HI.out.2.2.2.2⟩

set_option maxRecDepth 100000 in
set_option maxHeartbeats 4000000 in
theorem rContradict_any (n : Int) (q : Option Addr) (c : Nat) (gs : List Gl) (w : World) (hr : RowG w q gs) (hq : q = none → c = 0) :
    Calls Try.prog 35 #[.agg #[.int .i64 n, .slice q gs.length c]] w (ListErr w (contradictOf n gs)) := by
  have HI := Lib.hid (Inv.oneH w n q c gs hr hq)
  clear hr hq
  obtain ⟨E, hE⟩ : ∃ E, errH n gs = E := ⟨_, rfl⟩
  have HE := Lib.hid hE
  by_cases h0 : E = 0
  · subst h0
    obtain ⟨o1, o2, o3, o4⟩ := errH_ok hE
    obtain ⟨m, rfl⟩ := Int.eq_ofNat_of_zero_le (show 0 ≤ n by omega)
    have hgs := okGs_of o4
    have hm7 : m ≤ 7 := by omega
    have hm1 : 1 ≤ m := by omega
    by_cases hcp : 0 < cnt m gs
    · have hres : contradictOf m gs = ([], 13) := by rw [contradictOf, if_neg (by simp [hE]), Int.toNat_natCast, if_pos hcp]
      rw [hres]
      have hcr := cnt_reg m gs
      have HGS := Lib.hid hgs
      have k0 := HI.out.c (b := w.heap.size) (o := 0) (v := .int .i64 m) (by simp)
      have k1 := HI.out.c (b := w.heap.size) (o := 1) (v := .slice q gs.length c) (by simp)
      have hlt : (0 : Int) < ((regL m gs).length : Int) := by omega
      have cR := fun (W : World) (h : RowG W q gs) => rregion_any m q c gs W hm7 h HGS.out (by omega)
      generalize regL m gs = R at *
      have CR := Lib.hid cR
      clear hres hE o4 hgs hcr hcp cR
      go_enter Try.func35, Try.ntmps35
      go_wp2_with (first
        | (go_at_call 33; refine (HI.out.scalar (V' := .int .i64 0) (rCheck_any m q c gs _ (HI.out.1 (q, c, gs) (by simp)).1) (by rw [HE.out])).mono ?_; rintro e W ⟨rfl, hI⟩; replace HI := Lib.hid hI; clear hI k0 k1; have k0 := HI.out.c (b := w.heap.size) (o := 0) (v := .int .i64 m) (by simp); have k1 := HI.out.c (b := w.heap.size) (o := 1) (v := .slice q gs.length c) (by simp))
        | (go_at_call 99; refine (HI.out.places (CR.out _ (HI.out.1 (q, c, gs) (by simp)).1)).mono ?_; rintro e W ⟨q3, c3, rfl, hI⟩; replace HI := Lib.hid hI; clear hI))
      go_ret2
      exact ⟨none, 0, rfl, .inl rfl, HI.out.2.2.2.2⟩
    have hcr := cnt_reg m gs
    have hR0 : (regL m gs).length = 0 := by omega
    have cR := fun (W : World) (h : RowG W q gs) => rregion_any m q c gs W hm7 h hgs (by omega)
    have CR := Lib.hid cR
    clear hcr cR
    obtain ⟨good, hgood⟩ : ∃ good : List Int → Bool, good = fun is => (cnt m (sel true is gs) : Int) == 0 := ⟨_, rfl⟩
    have hres : contradictOf m gs = ((shortestOf gs.length good).getD [], 0) := by rw [hgood, contradictOf, if_neg (by simp [hE]), Int.toNat_natCast, if_neg hcp]
    rw [hres]
    have hga : ∀ l, good l = (((regL m (sel true l gs)).length : Int) == 0) := by
      intro l
      rw [hgood]
      show ((cnt m (sel true l gs) : Int) == 0) = _
      rw [cnt_reg]
      done
    have hnb : NoneBelow gs.length 1 good := by
      intro j hj x hx
      obtain rfl : j = 0 := by omega
      have hx0 : x = [] := by
        rw [show combos gs.length 0 0 = [[]] from by cases gs.length <;> rfl] at hx
        simpa using hx
      rw [hx0, hgood]
      have := cnt_pos m hm1 gs
      simp; omega
    have HNB := Lib.hid hnb
    clear hnb hcp
    have cL : ∀ (k : Nat) (hk : k ≤ 1000) (W : World), Calls Try.prog 109 #[.int .i64 (gs.length : Nat), .int .i64 (k : Nat), .slice none 0 0] W (ManyL W none (LL gs.length ((0 : Nat) : Int) k [])) := fun (k : Nat) (hk : k ≤ 1000) W => lists_any gs.length k (by omega) hk k [] none 0 0 gs.length W (by simp) (by simp) (.inl ⟨rfl, rfl⟩) (.inl rfl) (fun _ => rfl)
    have cS := fun (W : World) (q5 : Option Addr) (c5 : Nat) (l : List Int) (hh : RowG W q gs ∧ (q = none → c = 0)) (hi : RowI W q5 l) (hll : l.length ≤ 1000000) => rsome_any true m q q5 c c5 gs l W hh.1 hh.2 hi (by omega) hll
    have cG := fun (W : World) (q6 : Option Addr) (c6 : Nat) (l : List Int) (h : RowG W q6 (sel true l gs)) => rregion_any m q6 c6 (sel true l gs) W hm7 h (fun g hg => hgs g (sel_mem _ _ _ g hg)) (by have := sel_length true l gs; omega)
    unfold OneG at cS
    unfold OneP at cG
    have HGA := Lib.hid hga
    have HGO := Lib.hid hgood
    have CL := Lib.hid cL
    have CS := Lib.hid cS
    have CG := Lib.hid cG
    have k0 := HI.out.c (b := w.heap.size) (o := 0) (v := .int .i64 m) (by simp)
    have k1 := HI.out.c (b := w.heap.size) (o := 1) (v := .slice q gs.length c) (by simp)
    have h10 : gs.length ≤ 10 := by omega
    clear hres hE o4 hgs hga hgood cL cS cG
    go_enter Try.func35, Try.ntmps35
    go_wp2_with (first
      | (go_at_call 33; refine (HI.out.scalar (V' := .int .i64 0) (rCheck_any m q c gs _ (HI.out.1 (q, c, gs) (by simp)).1) (by rw [HE.out])).mono ?_; rintro e W ⟨rfl, hI⟩; replace HI := Lib.hid hI; clear hI k0 k1; have k0 := HI.out.c (b := w.heap.size) (o := 0) (v := .int .i64 m) (by simp); have k1 := HI.out.c (b := w.heap.size) (o := 1) (v := .slice q gs.length c) (by simp))
      | (go_at_call 99; refine (CR.out _ (HI.out.1 (q, c, gs) (by simp)).1).mono ?_; rintro e W ⟨q3, c3, rfl, _, hb3⟩; rw [hR0]; replace HI := Lib.hid (HI.out.go hb3); clear hb3))
    clear hR0
    go_loopw [5] (fun i wr => ∃ k : Nat, k ≤ gs.length + 1 ∧ 1 ≤ k ∧ i = .int .i64 k ∧ NoneBelow gs.length k good ∧ Inv w wr [(q, c, gs)] [] [] [(w.heap.size, 1, .slice q gs.length c), (w.heap.size, 0, .int .i64 m)]) (fun i _ => gs.length + 1 - (intOf i).toNat)
    case atStart => exact ⟨1, by omega, by omega, rfl, HNB.out, HI.out⟩
    case round =>
      clear HI HNB
      obtain ⟨k, hk, hk1, rfl, hnb, hI⟩ := hrel
      have HI := Lib.hid hI
      have HNB := Lib.hid hnb
      clear hI hnb
      have k0 := HI.out.c (b := w.heap.size) (o := 0) (v := .int .i64 m) (by simp)
      have k1 := HI.out.c (b := w.heap.size) (o := 1) (v := .slice q gs.length c) (by simp)
      by_cases hlt : k ≤ gs.length
      · have hll := LL_nil gs.length ((0 : Nat) : Int) k
        have HLL := Lib.hid hll
        have hcl := combos_length gs.length ((0 : Nat) : Int) k
        have HCL := Lib.hid hcl
        clear hll hcl
        go_wp2_with fail
        go_at_call 109
        have hc9 := CL.out k (by omega) wr
        with_reducible refine hc9.mono ?_
        clear hc9; rintro e W3 ⟨q3, c3, vs3, rfl, hnil, hrow, hinl, hb3⟩
        go_wp2
        rw [HLL.out] at hinl
        have hL : LstsIn W3 q3 vs3 (combos gs.length ((0 : Nat) : Int) k) := ⟨hrow, InL.mono (fun v l ⟨q, c, e, hr, _⟩ => ⟨q, c, e, hr⟩) hinl⟩
        have hlen := hinl.len
        have HLE := Lib.hid hlen
        have hv9 : vs3.length ≤ 4096 := by
          have h1 := combos_bd gs.length ((0 : Nat) : Int) k
          have h2 : 2 ^ gs.length ≤ 4096 := Nat.pow_le_pow_right (by omega) (show gs.length ≤ 12 by omega)
          omega
        clear hrow hinl hnil k0 k1 hlen
        have HI3 := Lib.hid (HI.out.go hb3)
        have HL3 := Lib.hid hL
        clear hL hb3
        go_loopw [7] (fun i wr => ∃ j : Nat, j ≤ vs3.length ∧ i = .int .i64 j ∧ NoneTo (combos gs.length ((0 : Nat) : Int) k) good j ∧ LstsIn wr q3 vs3 (combos gs.length ((0 : Nat) : Int) k) ∧ Inv w wr [(q, c, gs)] [] [] [(w.heap.size, 1, .slice q gs.length c), (w.heap.size, 0, .int .i64 m)]) (fun i _ => vs3.length - (intOf i).toNat)
        case atStart => exact ⟨0, Nat.zero_le _, rfl, NoneTo.zero _ _, HL3.out, HI3.out⟩
        case round =>
          clear HI HL3 HI3
          obtain ⟨j, hj, rfl, hnt, hL, hI⟩ := hrel
          have HI := Lib.hid hI
          have HL := Lib.hid hL
          have HNT := Lib.hid hnt
          clear hI hL hnt
          by_cases hlt2 : j < vs3.length
          · have hjl : j < (combos gs.length ((0 : Nat) : Int) k).length := by rw [← HLE.out]; exact hlt2
            obtain ⟨bb, off, q5, c5, hqe, hbz, hce, hri⟩ := HL.out.at hjl
            subst hqe
            have hmem := getD_mem (combos gs.length ((0 : Nat) : Int) k) j [] hjl
            have hl5 := HCL.out _ hmem
            have hst := HNT.out.step hjl
            have hit := HNT.out.hit HNB.out hlt hjl
            obtain ⟨l5, hl5e⟩ : ∃ l5, (combos gs.length ((0 : Nat) : Int) k).getD j [] = l5 := ⟨_, rfl⟩
            rw [hl5e] at hce hri hl5 hst hit
            have hgl := HGA.out l5
            obtain ⟨R5, hR5⟩ : ∃ R5, regL m (sel true l5 gs) = R5 := ⟨_, rfl⟩
            rw [hR5] at hgl
            obtain ⟨N5, hN5⟩ : ∃ N5, R5.length = N5 := ⟨_, rfl⟩
            rw [hN5] at hgl
            have HN5 := Lib.hid hN5
            have HR5 := Lib.hid hR5
            have HST := Lib.hid hst
            have HIT := Lib.hid hit
            have HGL := Lib.hid hgl
            have hz5 : l5.length ≤ 1000000 := by omega
            clear hmem hl5e hst hit hgl hR5 hl5 hN5
            have HLT2 := Lib.hid hlt2
            have HID := Lib.hid (HI.out.go (Below.refl _ _).drew)
            have HLD := Lib.hid (HL.out.below (Below.refl _ _).drew)
            have RD := Lib.hid (hri.below (Nat.le_refl _) (Below.refl _ wr).drew)
            have a0 := HI.out.c (b := w.heap.size) (o := 0) (v := .int .i64 m) (by simp)
            have a1 := HI.out.c (b := w.heap.size) (o := 1) (v := .slice q gs.length c) (by simp)
            have b0 := HID.out.c (b := w.heap.size) (o := 0) (v := .int .i64 m) (by simp)
            have b1 := HID.out.c (b := w.heap.size) (o := 1) (v := .slice q gs.length c) (by simp)
            have b2 : wr.drew.cell? ⟨bb, off + j, none⟩ = some (.slice q5 l5.length c5) := hce
            go_upto_region 13 with fail
            go_region_held3 (fun W => W.cell? ⟨w.heap.size, 0, none⟩ = some (.int .i64 m) ∧ W.cell? ⟨w.heap.size, 1, none⟩ = some (.slice q gs.length c) ∧ W.cell? ⟨bb, off + j, none⟩ = some (.slice q5 l5.length c5)) (first | exact ⟨a0, a1, hce⟩ | exact ⟨b0, b1, b2⟩ | exact ⟨d0, d1, d2⟩ | exact ⟨e0, e1, e2⟩ | go_keep)
              (first
              | (go_at_call 110; have hcc := CS.out wr.drew q5 c5 l5 (HID.out.1 (q, c, gs) (by simp)) RD.out hz5; (with_reducible refine hcc.mono ?_); clear hcc; intro e W6 hx; obtain ⟨q6, c6, he, hr6, hn6, hb6⟩ := hx; subst he; clear hn6; have J6 := Lib.hid (HID.out.go hb6); have L6 := Lib.hid (HLD.out.below hb6); have R6 := Lib.hid hr6; have d0 := J6.out.c (b := w.heap.size) (o := 0) (v := .int .i64 m) (by simp); have d1 := J6.out.c (b := w.heap.size) (o := 1) (v := .slice q gs.length c) (by simp); have d2 := (hb6.cell (p := ⟨bb, off + j, none⟩) hbz).trans b2; have Z6 := RD.out.below (Nat.le_refl _) hb6; have RI6 := Lib.hid Z6; have hs6 := hb6.size; clear hr6 hb6 Z6)
              | (go_at_call 99; have hcc := CG.out W6 q6 c6 l5 R6.out; (with_reducible refine hcc.mono ?_); clear hcc; intro e W7 hx; obtain ⟨q7, c7, he, hr7, hb7⟩ := hx; subst he; clear hr7; rw [HR5.out, HN5.out]; have J7 := Lib.hid (J6.out.go hb7); have L7 := Lib.hid (L6.out.below hb7); have e0 := J7.out.c (b := w.heap.size) (o := 0) (v := .int .i64 m) (by simp); have e1 := J7.out.c (b := w.heap.size) (o := 1) (v := .slice q gs.length c) (by simp); have e2 := (hb7.cell (p := ⟨bb, off + j, none⟩) (Nat.lt_of_lt_of_le hbz (by simpa using hs6))).trans d2; have RI7 := Lib.hid (RI6.out.below (Nat.le_refl _) hb7); clear hb7)
              | fail)
            all_goals
              clear a0 a1 hce b0 b1 b2 d0 d1 d2
              go_wp2
            · have hgt : good l5 = true := by
                rw [HGL.out]
                first | assumption | (simp; omega) | (simp; assumption)
              have hit2 := HIT.out hgt
              have HIT2 := Lib.hid hit2
              clear hit2 hgt
              go_ret2
              exact ⟨q5, c5, by rw [HIT2.out]; rfl, by rw [HIT2.out]; exact RI7.out, J7.out.2.2.2.2⟩
            · have hgt : good l5 = false := by
                rw [HGL.out]
                first | assumption | (simp; omega) | (simp; assumption)
              go_roundw
              case rel => exact ⟨j + 1, by have := HLT2.out; omega, by go_num, HST.out hgt, L7.out, J7.out⟩
              case measure => have := HLT2.out; simp [intOf]; omega
          · obtain rfl : j = vs3.length := by omega
            have hd := HNT.out
            rw [HLE.out] at hd
            have hdn := hd.done HNB.out
            have HDN := Lib.hid hdn
            clear hd hdn
            go_wp2
            go_roundw
            case rel => exact ⟨k + 1, by omega, by omega, by go_num, HDN.out, HI.out⟩
            case measure => simp [intOf]; omega
      · obtain rfl : k = gs.length + 1 := by omega
        have hm := shortestOf_miss HNB.out
        have HM := Lib.hid hm
        clear hm
        go_wp2
        go_ret2
        exact ⟨none, 0, by rw [HM.out]; rfl, by rw [HM.out]; exact .inl rfl, HI.out.2.2.2.2⟩
  · have hres : contradictOf n gs = ([], E) := by rw [contradictOf, hE, if_pos h0]
    rw [hres]
    have hb : (E != 0) = true := by simp [h0]
    have hb2 : (E == 0) = false := by simp [h0]
    have k0 := HI.out.c (b := w.heap.size) (o := 0) (v := .int .i64 n) (by simp)
    have k1 := HI.out.c (b := w.heap.size) (o := 1) (v := .slice q gs.length c) (by simp)
    clear hres hE
    go_enter Try.func35, Try.ntmps35
    go_wp2_with (go_at_call 33; refine (HI.out.scalar (V' := .int .i64 E) (rCheck_any n q c gs _ (HI.out.1 (q, c, gs) (by simp)).1) (by rw [HE.out])).mono ?_; rintro e W ⟨rfl, hI⟩; replace HI := Lib.hid hI; clear hI k0 k1)
    go_ret2
    exact ⟨none, 0, rfl, .inl rfl, HI.out.2.2.2.2⟩

set_option maxRecDepth 100000 in
set_option maxHeartbeats 4000000 in
theorem rFewest_any (n : Int) (q : Option Addr) (c : Nat) (gs : List Gl) (w : World) (hr : RowG w q gs) (hq : q = none → c = 0) :
    Calls Try.prog 47 #[.agg #[.int .i64 n, .slice q gs.length c]] w (ListErr w (fewestOf n gs)) := by
  have HI := Lib.hid (Inv.oneH w n q c gs hr hq)
  clear hr hq
  obtain ⟨E, hE⟩ : ∃ E, errH n gs = E := ⟨_, rfl⟩
  have HE := Lib.hid hE
  by_cases h0 : E = 0
  · subst h0
    obtain ⟨o1, o2, o3, o4⟩ := errH_ok hE
    obtain ⟨m, rfl⟩ := Int.eq_ofNat_of_zero_le (show 0 ≤ n by omega)
    have hgs := okGs_of o4
    have hm7 : m ≤ 7 := by omega
    have hm1 : 1 ≤ m := by omega
    obtain ⟨all, hall⟩ : ∃ all, cnt m gs = all := ⟨_, rfl⟩
    have hcr := cnt_reg m gs
    have hR0 : (regL m gs).length = all := by omega
    have cR := fun (W : World) (h : RowG W q gs) => rregion_any m q c gs W hm7 h hgs (by omega)
    have CR := Lib.hid cR
    clear hcr cR
    obtain ⟨good, hgood⟩ : ∃ good : List Int → Bool, good = fun is => (cnt m (sel true is gs) : Int) == (all : Int) := ⟨_, rfl⟩
    have hres : fewestOf m gs = ((shortestOf gs.length good).getD [], 0) := by rw [hgood, fewestOf, if_neg (by simp [hE]), Int.toNat_natCast, hall]
    rw [hres]
    have hga : ∀ l, good l = (((regL m (sel true l gs)).length : Int) == (all : Int)) := by
      intro l
      rw [hgood]
      show ((cnt m (sel true l gs) : Int) == (all : Int)) = _
      rw [cnt_reg]
      done
    have cL : ∀ (k : Nat) (hk : k ≤ 1000) (W : World), Calls Try.prog 109 #[.int .i64 (gs.length : Nat), .int .i64 (k : Nat), .slice none 0 0] W (ManyL W none (LL gs.length ((0 : Nat) : Int) k [])) := fun (k : Nat) (hk : k ≤ 1000) W => lists_any gs.length k (by omega) hk k [] none 0 0 gs.length W (by simp) (by simp) (.inl ⟨rfl, rfl⟩) (.inl rfl) (fun _ => rfl)
    have cS := fun (W : World) (q5 : Option Addr) (c5 : Nat) (l : List Int) (hh : RowG W q gs ∧ (q = none → c = 0)) (hi : RowI W q5 l) (hll : l.length ≤ 1000000) => rsome_any true m q q5 c c5 gs l W hh.1 hh.2 hi (by omega) hll
    have cG := fun (W : World) (q6 : Option Addr) (c6 : Nat) (l : List Int) (h : RowG W q6 (sel true l gs)) => rregion_any m q6 c6 (sel true l gs) W hm7 h (fun g hg => hgs g (sel_mem _ _ _ g hg)) (by have := sel_length true l gs; omega)
    unfold OneG at cS
    unfold OneP at cG
    have HGA := Lib.hid hga
    have HGO := Lib.hid hgood
    have CL := Lib.hid cL
    have CS := Lib.hid cS
    have CG := Lib.hid cG
    have k0 := HI.out.c (b := w.heap.size) (o := 0) (v := .int .i64 m) (by simp)
    have k1 := HI.out.c (b := w.heap.size) (o := 1) (v := .slice q gs.length c) (by simp)
    have h10 : gs.length ≤ 10 := by omega
    clear hres hE o4 hgs hga hgood cL cS cG hall
    go_enter Try.func47, Try.ntmps47
    go_wp2_with (first
      | (go_at_call 33; refine (HI.out.scalar (V' := .int .i64 0) (rCheck_any m q c gs _ (HI.out.1 (q, c, gs) (by simp)).1) (by rw [HE.out])).mono ?_; rintro e W ⟨rfl, hI⟩; replace HI := Lib.hid hI; clear hI k0 k1; have k0 := HI.out.c (b := w.heap.size) (o := 0) (v := .int .i64 m) (by simp); have k1 := HI.out.c (b := w.heap.size) (o := 1) (v := .slice q gs.length c) (by simp))
      | (go_at_call 99; refine (CR.out _ (HI.out.1 (q, c, gs) (by simp)).1).mono ?_; rintro e W ⟨q3, c3, rfl, _, hb3⟩; rw [hR0]; replace HI := Lib.hid (HI.out.go hb3); clear hb3))
    clear hR0
    go_loopw [6] (fun i wr => ∃ k : Nat, k ≤ gs.length + 1 ∧ 0 ≤ k ∧ i = .int .i64 k ∧ NoneBelow gs.length k good ∧ Inv w wr [(q, c, gs)] [] [] [(w.heap.size, 1, .slice q gs.length c), (w.heap.size, 0, .int .i64 m)]) (fun i _ => gs.length + 1 - (intOf i).toNat)
    case atStart => exact ⟨0, by omega, by omega, rfl, fun j hj => absurd hj (Nat.not_lt_zero j), HI.out⟩
    case round =>
      clear HI
      obtain ⟨k, hk, hk1, rfl, hnb, hI⟩ := hrel
      have HI := Lib.hid hI
      have HNB := Lib.hid hnb
      clear hI hnb
      have k0 := HI.out.c (b := w.heap.size) (o := 0) (v := .int .i64 m) (by simp)
      have k1 := HI.out.c (b := w.heap.size) (o := 1) (v := .slice q gs.length c) (by simp)
      by_cases hlt : k ≤ gs.length
      · have hll := LL_nil gs.length ((0 : Nat) : Int) k
        have HLL := Lib.hid hll
        have hcl := combos_length gs.length ((0 : Nat) : Int) k
        have HCL := Lib.hid hcl
        clear hll hcl
        go_wp2_with fail
        go_at_call 109
        have hc9 := CL.out k (by omega) wr
        with_reducible refine hc9.mono ?_
        clear hc9; rintro e W3 ⟨q3, c3, vs3, rfl, hnil, hrow, hinl, hb3⟩
        go_wp2
        rw [HLL.out] at hinl
        have hL : LstsIn W3 q3 vs3 (combos gs.length ((0 : Nat) : Int) k) := ⟨hrow, InL.mono (fun v l ⟨q, c, e, hr, _⟩ => ⟨q, c, e, hr⟩) hinl⟩
        have hlen := hinl.len
        have HLE := Lib.hid hlen
        have hv9 : vs3.length ≤ 4096 := by
          have h1 := combos_bd gs.length ((0 : Nat) : Int) k
          have h2 : 2 ^ gs.length ≤ 4096 := Nat.pow_le_pow_right (by omega) (show gs.length ≤ 12 by omega)
          omega
        clear hrow hinl hnil k0 k1 hlen
        have HI3 := Lib.hid (HI.out.go hb3)
        have HL3 := Lib.hid hL
        clear hL hb3
        go_loopw [8] (fun i wr => ∃ j : Nat, j ≤ vs3.length ∧ i = .int .i64 j ∧ NoneTo (combos gs.length ((0 : Nat) : Int) k) good j ∧ LstsIn wr q3 vs3 (combos gs.length ((0 : Nat) : Int) k) ∧ Inv w wr [(q, c, gs)] [] [] [(w.heap.size, 1, .slice q gs.length c), (w.heap.size, 0, .int .i64 m)]) (fun i _ => vs3.length - (intOf i).toNat)
        case atStart => exact ⟨0, Nat.zero_le _, rfl, NoneTo.zero _ _, HL3.out, HI3.out⟩
        case round =>
          clear HI HL3 HI3
          obtain ⟨j, hj, rfl, hnt, hL, hI⟩ := hrel
          have HI := Lib.hid hI
          have HL := Lib.hid hL
          have HNT := Lib.hid hnt
          clear hI hL hnt
          by_cases hlt2 : j < vs3.length
          · have hjl : j < (combos gs.length ((0 : Nat) : Int) k).length := by rw [← HLE.out]; exact hlt2
            obtain ⟨bb, off, q5, c5, hqe, hbz, hce, hri⟩ := HL.out.at hjl
            subst hqe
            have hmem := getD_mem (combos gs.length ((0 : Nat) : Int) k) j [] hjl
            have hl5 := HCL.out _ hmem
            have hst := HNT.out.step hjl
            have hit := HNT.out.hit HNB.out hlt hjl
            obtain ⟨l5, hl5e⟩ : ∃ l5, (combos gs.length ((0 : Nat) : Int) k).getD j [] = l5 := ⟨_, rfl⟩
            rw [hl5e] at hce hri hl5 hst hit
            have hgl := HGA.out l5
            obtain ⟨R5, hR5⟩ : ∃ R5, regL m (sel true l5 gs) = R5 := ⟨_, rfl⟩
            rw [hR5] at hgl
            obtain ⟨N5, hN5⟩ : ∃ N5, R5.length = N5 := ⟨_, rfl⟩
            rw [hN5] at hgl
            have HN5 := Lib.hid hN5
            have HR5 := Lib.hid hR5
            have HST := Lib.hid hst
            have HIT := Lib.hid hit
            have HGL := Lib.hid hgl
            have hz5 : l5.length ≤ 1000000 := by omega
            clear hmem hl5e hst hit hgl hR5 hl5 hN5
            have HLT2 := Lib.hid hlt2
            have HID := Lib.hid (HI.out.go (Below.refl _ _).drew)
            have HLD := Lib.hid (HL.out.below (Below.refl _ _).drew)
            have RD := Lib.hid (hri.below (Nat.le_refl _) (Below.refl _ wr).drew)
            have a0 := HI.out.c (b := w.heap.size) (o := 0) (v := .int .i64 m) (by simp)
            have a1 := HI.out.c (b := w.heap.size) (o := 1) (v := .slice q gs.length c) (by simp)
            have b0 := HID.out.c (b := w.heap.size) (o := 0) (v := .int .i64 m) (by simp)
            have b1 := HID.out.c (b := w.heap.size) (o := 1) (v := .slice q gs.length c) (by simp)
            have b2 : wr.drew.cell? ⟨bb, off + j, none⟩ = some (.slice q5 l5.length c5) := hce
            go_upto_region 12 with fail
            go_region_held3 (fun W => W.cell? ⟨w.heap.size, 0, none⟩ = some (.int .i64 m) ∧ W.cell? ⟨w.heap.size, 1, none⟩ = some (.slice q gs.length c) ∧ W.cell? ⟨bb, off + j, none⟩ = some (.slice q5 l5.length c5)) (first | exact ⟨a0, a1, hce⟩ | exact ⟨b0, b1, b2⟩ | exact ⟨d0, d1, d2⟩ | exact ⟨e0, e1, e2⟩ | go_keep)
              (first
              | (go_at_call 110; have hcc := CS.out wr.drew q5 c5 l5 (HID.out.1 (q, c, gs) (by simp)) RD.out hz5; (with_reducible refine hcc.mono ?_); clear hcc; intro e W6 hx; obtain ⟨q6, c6, he, hr6, hn6, hb6⟩ := hx; subst he; clear hn6; have J6 := Lib.hid (HID.out.go hb6); have L6 := Lib.hid (HLD.out.below hb6); have R6 := Lib.hid hr6; have d0 := J6.out.c (b := w.heap.size) (o := 0) (v := .int .i64 m) (by simp); have d1 := J6.out.c (b := w.heap.size) (o := 1) (v := .slice q gs.length c) (by simp); have d2 := (hb6.cell (p := ⟨bb, off + j, none⟩) hbz).trans b2; have Z6 := RD.out.below (Nat.le_refl _) hb6; have RI6 := Lib.hid Z6; have hs6 := hb6.size; clear hr6 hb6 Z6)
              | (go_at_call 99; have hcc := CG.out W6 q6 c6 l5 R6.out; (with_reducible refine hcc.mono ?_); clear hcc; intro e W7 hx; obtain ⟨q7, c7, he, hr7, hb7⟩ := hx; subst he; clear hr7; rw [HR5.out, HN5.out]; have J7 := Lib.hid (J6.out.go hb7); have L7 := Lib.hid (L6.out.below hb7); have e0 := J7.out.c (b := w.heap.size) (o := 0) (v := .int .i64 m) (by simp); have e1 := J7.out.c (b := w.heap.size) (o := 1) (v := .slice q gs.length c) (by simp); have e2 := (hb7.cell (p := ⟨bb, off + j, none⟩) (Nat.lt_of_lt_of_le hbz (by simpa using hs6))).trans d2; have RI7 := Lib.hid (RI6.out.below (Nat.le_refl _) hb7); clear hb7)
              | fail)
            all_goals
              clear a0 a1 hce b0 b1 b2 d0 d1 d2
              go_wp2
            · have hgt : good l5 = true := by
                rw [HGL.out]
                first | assumption | (simp; omega) | (simp; assumption)
              have hit2 := HIT.out hgt
              have HIT2 := Lib.hid hit2
              clear hit2 hgt
              go_ret2
              exact ⟨q5, c5, by rw [HIT2.out]; rfl, by rw [HIT2.out]; exact RI7.out, J7.out.2.2.2.2⟩
            · have hgt : good l5 = false := by
                rw [HGL.out]
                first | assumption | (simp; omega) | (simp; assumption)
              go_roundw
              case rel => exact ⟨j + 1, by have := HLT2.out; omega, by go_num, HST.out hgt, L7.out, J7.out⟩
              case measure => have := HLT2.out; simp [intOf]; omega
          · obtain rfl : j = vs3.length := by omega
            have hd := HNT.out
            rw [HLE.out] at hd
            have hdn := hd.done HNB.out
            have HDN := Lib.hid hdn
            clear hd hdn
            go_wp2
            go_roundw
            case rel => exact ⟨k + 1, by omega, by omega, by go_num, HDN.out, HI.out⟩
            case measure => simp [intOf]; omega
      · obtain rfl : k = gs.length + 1 := by omega
        have hm := shortestOf_miss HNB.out
        have HM := Lib.hid hm
        clear hm
        go_wp2
        go_ret2
        exact ⟨none, 0, by rw [HM.out]; rfl, by rw [HM.out]; exact .inl rfl, HI.out.2.2.2.2⟩
  · have hres : fewestOf n gs = ([], E) := by rw [fewestOf, hE, if_pos h0]
    rw [hres]
    have hb : (E != 0) = true := by simp [h0]
    have hb2 : (E == 0) = false := by simp [h0]
    have k0 := HI.out.c (b := w.heap.size) (o := 0) (v := .int .i64 n) (by simp)
    have k1 := HI.out.c (b := w.heap.size) (o := 1) (v := .slice q gs.length c) (by simp)
    clear hres hE
    go_enter Try.func47, Try.ntmps47
    go_wp2_with (go_at_call 33; refine (HI.out.scalar (V' := .int .i64 E) (rCheck_any n q c gs _ (HI.out.1 (q, c, gs) (by simp)).1) (by rw [HE.out])).mono ?_; rintro e W ⟨rfl, hI⟩; replace HI := Lib.hid hI; clear hI k0 k1)
    go_ret2
    exact ⟨none, 0, rfl, .inl rfl, HI.out.2.2.2.2⟩
end Go.Proofs.Ytcalipoknbbaaaa
namespace Go.Proofs.Ytcalipoknbbaaaa
open Go.RowKit
set_option linter.unusedSimpArgs false
set_option linter.unusedVariables false

set_option maxRecDepth 100000 in
set_option maxHeartbeats 4000000 in
theorem rNeedless_any (n : Int) (q : Option Addr) (c : Nat) (gs : List Gl) (w : World) (hr : RowG w q gs) (hq : q = none → c = 0) :
    Calls Try.prog 45 #[.agg #[.int .i64 n, .slice q gs.length c]] w (ListErr w (needlessOf n gs)) := by
  have HI := Lib.hid (Inv.oneH w n q c gs hr hq)
  clear hr hq
  obtain ⟨E, hE⟩ : ∃ E, errH n gs = E := ⟨_, rfl⟩
  have HE := Lib.hid hE
  by_cases h0 : E = 0
  · subst h0
    obtain ⟨o1, o2, o3, o4⟩ := errH_ok hE
    obtain ⟨m, rfl⟩ := Int.eq_ofNat_of_zero_le (show 0 ≤ n by omega)
    have hgs := okGs_of o4
    have hm7 : m ≤ 7 := by omega
    have hres : needlessOf m gs = (needTo m gs gs.length, 0) := by rw [needlessOf, if_neg (by simp [hE]), Int.toNat_natCast]
    rw [hres]
    obtain ⟨all, hall⟩ : ∃ all, cnt m gs = all := ⟨_, rfl⟩
    have hR0 : (regL m gs).length = all := by rw [← cnt_reg]; exact hall
    have cR := fun (W : World) (h : RowG W q gs) => rregion_any m q c gs W hm7 h hgs (by omega)
    have hst : ∀ k, needTo m gs (k + 1) = needTo m gs k ++ if (((regL m (sel false [(k : Int)] gs)).length : Int) == (all : Int)) then [(k : Int)] else [] := by
      intro k
      rw [needTo_succ, cnt_reg m (sel false [(k : Int)] gs), hall]
    have cS : ∀ (W : World) (q5 : Option Addr) (c5 : Nat) (x : Int) (hh : RowG W q gs ∧ (q = none → c = 0)) (hi : RowI W q5 [x]), Calls Try.prog 110 #[.agg #[.int .i64 (m : Nat), .slice q gs.length c], .slice q5 1 c5, .bool false] W (OneG W (sel false [x] gs)) :=
      fun W q5 c5 x hh hi => rsome_any false m q q5 c c5 gs [x] W hh.1 hh.2 hi (by omega) (by simp)
    have cG := fun (W : World) (q6 : Option Addr) (c6 : Nat) (l : List Int) (h : RowG W q6 (sel false l gs)) => rregion_any m q6 c6 (sel false l gs) W hm7 h (fun g hg => hgs g (sel_mem _ _ _ g hg)) (by have := sel_length false l gs; omega)
    unfold OneG at cS
    unfold OneP at cG cR
    have CR := Lib.hid cR
    have HST := Lib.hid hst
    have CS := Lib.hid cS
    have CG := Lib.hid cG
    have HR0 := Lib.hid hR0
    have k0 := HI.out.c (b := w.heap.size) (o := 0) (v := .int .i64 m) (by simp)
    have k1 := HI.out.c (b := w.heap.size) (o := 1) (v := .slice q gs.length c) (by simp)
    have h10 : gs.length ≤ 10 := by omega
    clear hres hE o4 hgs hall hR0 hst cS cG cR
    go_enter Try.func45, Try.ntmps45
    go_wp2_with (first
      | (go_at_call 33; refine (HI.out.scalar (V' := .int .i64 0) (rCheck_any m q c gs _ (HI.out.1 (q, c, gs) (by simp)).1) (by rw [HE.out])).mono ?_; rintro e W ⟨rfl, hI⟩; replace HI := Lib.hid hI; clear hI k0 k1; have k0 := HI.out.c (b := w.heap.size) (o := 0) (v := .int .i64 m) (by simp); have k1 := HI.out.c (b := w.heap.size) (o := 1) (v := .slice q gs.length c) (by simp))
      | (go_at_call 99; refine (CR.out _ (HI.out.1 (q, c, gs) (by simp)).1).mono ?_; rintro e W9 ⟨q3, c3, rfl, _, hb3⟩; rw [HR0.out]; replace HI := Lib.hid (HI.out.go hb3); clear hb3 k0 k1))
    go_loopw [6, 7] (fun v i wr => ∃ k : Nat, k ≤ gs.length ∧ i = .int .i64 k ∧ wr.ownsRow W9.heap.size 3 1 v (needTo m gs k).length (flatI (needTo m gs k)) ∧ Below W9.heap.size W9 wr) (fun _ i _ => gs.length - (intOf i).toNat)
    case atStart => exact ⟨0, Nat.zero_le _, rfl, by rw [needTo_zero]; exact World.ownsRow_nil _ _ _ _, Below.refl _ _⟩
    case round =>
      obtain ⟨k, hk, rfl, hown, hbel⟩ := hrel
      have HO := Lib.hid hown
      have HJ := Lib.hid (HI.out.go hbel)
      have hsz := hbel.size
      have HBE := Lib.hid hbel
      clear hown hbel
      have a0 := HJ.out.c (b := w.heap.size) (o := 0) (v := .int .i64 m) (by simp)
      have a1 := HJ.out.c (b := w.heap.size) (o := 1) (v := .slice q gs.length c) (by simp)
      by_cases hlt : k < gs.length
      · have hsl := HST.out k
        have hle := needTo_le m gs k
        obtain ⟨R5, hR5⟩ : ∃ R5, regL m (sel false [(k : Int)] gs) = R5 := ⟨_, rfl⟩
        rw [hR5] at hsl
        obtain ⟨N5, hN5⟩ : ∃ N5, R5.length = N5 := ⟨_, rfl⟩
        rw [hN5] at hsl
        have HSL := Lib.hid hsl
        have HR5 := Lib.hid hR5
        have HN5 := Lib.hid hN5
        have HLT := Lib.hid hlt
        clear hsl hR5 hN5
        generalize needTo m gs k = out at *
        have HJD := Lib.hid (HJ.out.go (Below.refl _ _).drew)
        have hba : Below wr.heap.size wr ((wr.alloc (.cells #[.int .i64 k] 3)).drew) := ((Below.refl _ wr).alloc (Nat.le_refl _) _).drew
        have HBA := Lib.hid hba
        have HJA := Lib.hid (HJ.out.go hba)
        have hra : RowI ((wr.alloc (.cells #[.int .i64 k] 3)).drew) (some ⟨wr.heap.size, 0, none⟩) [(k : Int)] := .inr ⟨wr.heap.size, 0, rfl, by simp, by intro i hi; have h0 : i = 0 := (by simpa using hi); subst h0; simp⟩
        have RA := Lib.hid hra
        have b0 := HJD.out.c (b := w.heap.size) (o := 0) (v := .int .i64 m) (by simp)
        have b1 := HJD.out.c (b := w.heap.size) (o := 1) (v := .slice q gs.length c) (by simp)
        have f0 := HJA.out.c (b := w.heap.size) (o := 0) (v := .int .i64 m) (by simp)
        have f1 := HJA.out.c (b := w.heap.size) (o := 1) (v := .slice q gs.length c) (by simp)
        clear hba hra
        go_upto_region 9 with fail
        go_region_held3 (fun W => W.cell? ⟨w.heap.size, 0, none⟩ = some (.int .i64 m) ∧ W.cell? ⟨w.heap.size, 1, none⟩ = some (.slice q gs.length c)) (first | exact ⟨a0, a1⟩ | exact ⟨b0, b1⟩ | exact ⟨f0, f1⟩ | exact ⟨d0, d1⟩ | exact ⟨e0, e1⟩ | go_keep)
          (first
          | (go_at_call 110; have hcc := CS.out ((wr.alloc (.cells #[.int .i64 k] 3)).drew) (some ⟨wr.heap.size, 0, none⟩) 1 (k : Int) (HJA.out.1 (q, c, gs) (by simp)) RA.out; (with_reducible refine hcc.mono ?_); clear hcc; rintro e W6 ⟨q6, c6, rfl, hr6, _, hb6⟩; have J6 := Lib.hid (HJA.out.go hb6); have R6 := Lib.hid hr6; have B6 := Lib.hid (HBA.out.trans (hb6.mono HBA.out.size)); have d0 := J6.out.c (b := w.heap.size) (o := 0) (v := .int .i64 m) (by simp); have d1 := J6.out.c (b := w.heap.size) (o := 1) (v := .slice q gs.length c) (by simp); clear hr6 hb6)
          | (go_at_call 99; have hcc := CG.out W6 q6 c6 [(k : Int)] R6.out; (with_reducible refine hcc.mono ?_); clear hcc; rintro e W7 ⟨q7, c7, rfl, _, hb7⟩; rw [HR5.out, HN5.out]; have J7 := Lib.hid (J6.out.go hb7); have B7 := Lib.hid (B6.out.trans (hb7.mono B6.out.size)); have e0 := J7.out.c (b := w.heap.size) (o := 0) (v := .int .i64 m) (by simp); have e1 := J7.out.c (b := w.heap.size) (o := 1) (v := .slice q gs.length c) (by simp); clear hb7)
          | fail)
        all_goals
          clear a0 a1 b0 b1 d0 d1 f0 f1
          have HO3 := Lib.hid (owns_below HO.out (Nat.le_refl _) B7.out)
          have hs7 := B7.out.size
          go_wp2_with (at_builtin; refine app_int _ rfl (.tmp 36) (.tmp 38) rfl W9.heap.size _ out (k : Int) rfl (HO3.out.alloc _) W7.heap.size 1 rfl (by simp) (by omega) (by simp; omega) ?_; intro v' w4 hown4 hgrow hblk)
        · have hy : ((N5 : Int) == (all : Int)) = true := by first | assumption | (simp; omega) | (simp; assumption)
          have es := HSL.out
          rw [if_pos hy] at es
          have hb6 := grown_below (HO3.out.alloc (.cells #[.int .i64 k] 3)) (by simp; omega) hgrow
          have hbn := ((HBE.out.trans (B7.out.mono hsz)).alloc (by omega) (.cells #[.int .i64 k] 3)).trans hb6
          go_roundw
          case rel => exact ⟨k + 1, HLT.out, by go_num, by rw [es]; exact hown4, hbn⟩
          case measure => have := HLT.out; simp [intOf]; omega
        · have hy : ((N5 : Int) == (all : Int)) = false := by first | assumption | (simp; omega) | (simp; assumption)
          have es := HSL.out
          rw [if_neg (by simp [hy]), List.append_nil] at es
          go_roundw
          case rel => exact ⟨k + 1, HLT.out, by go_num, by rw [es]; exact HO3.out, HBE.out.trans (B7.out.mono hsz)⟩
          case measure => have := HLT.out; simp [intOf]; omega
      · obtain rfl : k = gs.length := by omega
        obtain ⟨q1, cc, rfl, r1⟩ := rowI_of_owns HO.out
        have R1 := Lib.hid r1
        clear r1 HO
        go_wp2
        go_ret2
        exact ⟨q1, cc, rfl, R1.out, HJ.out.2.2.2.2⟩
  · have hres : needlessOf n gs = ([], E) := by rw [needlessOf, hE, if_pos h0]
    rw [hres]
    have hb : (E != 0) = true := by simp [h0]
    have k0 := HI.out.c (b := w.heap.size) (o := 0) (v := .int .i64 n) (by simp)
    have k1 := HI.out.c (b := w.heap.size) (o := 1) (v := .slice q gs.length c) (by simp)
    clear hres hE
    go_enter Try.func45, Try.ntmps45
    go_wp2_with (go_at_call 33; refine (HI.out.scalar (V' := .int .i64 E) (rCheck_any n q c gs _ (HI.out.1 (q, c, gs) (by simp)).1) (by rw [HE.out])).mono ?_; rintro e W ⟨rfl, hI⟩; replace HI := Lib.hid hI; clear hI k0 k1)
    go_ret2
    exact ⟨none, 0, rfl, .inl rfl, HI.out.2.2.2.2⟩
end Go.Proofs.Ytcalipoknbbaaaa
namespace Go.Proofs.Ytcalipoknbbaaaa
open Go.RowKit
set_option linter.unusedSimpArgs false
set_option linter.unusedVariables false

/-- the number ahead of the k-th -/
def prevI (is : List Int) (k : Nat) : Int := if k = 0 then -1 else is.getD (k - 1) 0
theorem prevI_succ (is : List Int) (k : Nat) : prevI is (k + 1) = is.getD k 0 := by simp [prevI]

/-- how far the check of a list of numbers is -/
def AtP (m : Nat) (is : List Int) (k : Nat) (E : Int) : Prop := (E = 0 ∧ ordErr m (-1) is = ordErr m (prevI is k) (is.drop k)) ∨ (E ≠ 0 ∧ ordErr m (-1) is = E)

theorem RowI.cell {W : World} {b off : Nat} {xs : List Int} (h : RowI W (some ⟨b, off, none⟩) xs) {k : Nat} (hk : k < xs.length) : W.cell? ⟨b, off + k, none⟩ = some (.int .i64 (xs.getD k 0)) := by
  rcases h with h0 | ⟨b', off', e, hz, hc⟩
  · subst h0; simp at hk
  · simp only [Option.some.injEq, Addr.mk.injEq] at e
    obtain ⟨rfl, rfl, _⟩ := e
    exact hc k hk

set_option maxRecDepth 100000 in
set_option maxHeartbeats 4000000 in
theorem rProves_any (n : Int) (q qi : Option Addr) (c ci : Nat) (gs : List Gl) (is : List Int) (w : World) (hr : RowG w q gs) (hq : q = none → c = 0) (hi : RowI w qi is) (hl : is.length ≤ 1000000) :
    Calls Try.prog 40 #[.agg #[.int .i64 n, .slice q gs.length c], .slice qi is.length ci] w fun e w' => e = .returned (.int .i64 (provesOf n gs is)) ∧ Below w.heap.size w w' := by
  have HI := Lib.hid ((Inv.oneH w n q c gs hr hq).addI (hi.below (Nat.le_refl _) ((Below.refl _ _).alloc (Nat.le_refl _) _)))
  clear hr hq hi
  obtain ⟨E0, hE⟩ : ∃ E, errH n gs = E := ⟨_, rfl⟩
  have HE := Lib.hid hE
  by_cases h0 : E0 = 0
  · subst h0
    obtain ⟨o1, o2, o3, o4⟩ := errH_ok hE
    obtain ⟨m, rfl⟩ := Int.eq_ofNat_of_zero_le (show 0 ≤ n by omega)
    have hgs := okGs_of o4
    have hm7 : m ≤ 7 := by omega
    have hres : provesOf m gs is = if ordErr gs.length (-1) is ≠ 0 then ordErr gs.length (-1) is else if 0 < cnt m (sel true is gs) then 14 else 0 := by rw [provesOf, if_neg (by simp [hE]), Int.toNat_natCast]
    obtain ⟨R5, hR5⟩ : ∃ R5, regL m (sel true is gs) = R5 := ⟨_, rfl⟩
    obtain ⟨N5, hN5⟩ : ∃ N5, R5.length = N5 := ⟨_, rfl⟩
    rw [cnt_reg, hR5, hN5] at hres
    obtain ⟨P, hP⟩ : ∃ P, provesOf m gs is = P := ⟨_, rfl⟩
    rw [hP] at hres
    rw [hP]
    have HP := Lib.hid hres
    clear hP
    have cS := fun (W : World) (hh : RowG W q gs ∧ (q = none → c = 0)) (hi : RowI W qi is) => rsome_any true m q qi c ci gs is W hh.1 hh.2 hi (by omega) hl
    have cG := fun (W : World) (q6 : Option Addr) (c6 : Nat) (h : RowG W q6 (sel true is gs)) => rregion_any m q6 c6 (sel true is gs) W hm7 h (fun g hg => hgs g (sel_mem _ _ _ g hg)) (by have := sel_length true is gs; omega)
    unfold OneG at cS
    unfold OneP at cG
    have CS := Lib.hid cS
    have CG := Lib.hid cG
    have HR5 := Lib.hid hR5
    have HN5 := Lib.hid hN5
    have k0 := HI.out.c (b := w.heap.size) (o := 0) (v := .int .i64 m) (by simp)
    have k1 := HI.out.c (b := w.heap.size) (o := 1) (v := .slice q gs.length c) (by simp)
    have h10 : gs.length ≤ 10 := by omega
    clear hres hE o4 hgs hR5 hN5 cS cG
    go_enter Try.func40, Try.ntmps40
    go_wp2_with (go_at_call 33; refine (HI.out.scalar (V' := .int .i64 0) (rCheck_any m q c gs _ (HI.out.1 (q, c, gs) (by simp)).1) (by rw [HE.out])).mono ?_; rintro e W ⟨rfl, hI⟩; replace HI := Lib.hid hI; clear hI k0 k1)
    go_loopw [5, 6] (fun e i wr => ∃ (k : Nat) (E : Int), k ≤ is.length ∧ i = .int .i64 k ∧ e = .int .i64 E ∧ AtP gs.length is k E ∧ Inv w wr [(q, c, gs)] [] [(qi, is)] [(w.heap.size, 1, .slice q gs.length c), (w.heap.size, 0, .int .i64 m)]) (fun _ i _ => is.length - (intOf i).toNat)
    case atStart => exact ⟨0, 0, Nat.zero_le _, rfl, rfl, .inl ⟨rfl, rfl⟩, HI.out⟩
    case round =>
      clear HI
      obtain ⟨k, E, hk, rfl, rfl, hat, hI⟩ := hrel
      have HI := Lib.hid hI
      clear hI
      have k0 := HI.out.c (b := w.heap.size) (o := 0) (v := .int .i64 m) (by simp)
      have k1 := HI.out.c (b := w.heap.size) (o := 1) (v := .slice q gs.length c) (by simp)
      have HID := Lib.hid (HI.out.go (Below.refl _ _).drew)
      rcases hat with ⟨rfl, hord⟩ | ⟨hne, hord⟩
      · by_cases hlt : k < is.length
        · obtain ⟨bb, off, hqe, hbz, g1⟩ := (HI.out.2.2.1 (qi, is) (by simp)).at hlt (Nat.le_refl _) (Below.refl _ _)
          dsimp only at hqe g1
          subst hqe
          rw [List.drop_eq_getElem_cons hlt, ← getD_eq is k 0 hlt, ordErr] at hord
          have hps := prevI_succ is k
          have HPS := Lib.hid hps
          clear hps
          obtain ⟨x, hx⟩ : ∃ x, is.getD k 0 = x := ⟨_, rfl⟩
          rw [hx] at g1 hord
          have HX := Lib.hid hx
          clear hx
          have hck : inB x 0 ((gs.length : Int) - 1) = decide (0 ≤ x ∧ x < gs.length) := by
            unfold inB
            by_cases h1 : 0 ≤ x <;> by_cases h2 : x < gs.length <;> simp [h1, h2] <;> omega
          have HCK := Lib.hid hck
          have hwr : IntKind.i64.wrap ((gs.length : Int) - 1) = (gs.length : Int) - 1 := IntWalk.i64_in _ ⟨by omega, by omega⟩
          have HWR := Lib.hid hwr
          clear hwr
          have HLT := Lib.hid hlt
          have HORD := Lib.hid hord
          have b1 : wr.drew.cell? ⟨w.heap.size, 1, none⟩ = some (.slice q gs.length c) := k1
          have g2 : wr.drew.cell? ⟨bb, off + k, none⟩ = some (.int .i64 x) := g1
          clear hck hord
          by_cases hin : 0 ≤ x ∧ x < gs.length
          · have hcb := HCK.out
            rw [decide_eq_true hin] at hcb
            have HCB := Lib.hid hcb
            clear hcb hlt
            go_upto_region 5 with fail
            go_region_held3 (fun W => W.cell? ⟨w.heap.size, 1, none⟩ = some (.slice q gs.length c) ∧ W.cell? ⟨bb, off + k, none⟩ = some (.int .i64 x)) (first | exact ⟨k1, g1⟩ | exact ⟨b1, g2⟩ | go_keep)
              (first | (go_at_call 97; have hcc := in_any x 0 ((gs.length : Int) - 1) wr.drew; rw [HCB.out, ← HWR.out] at hcc; (with_reducible refine hcc.mono ?_); clear hcc; rintro e W6 ⟨rfl, rfl⟩))
            clear k0 k1 b1 g1 HI
            generalize wr.drew = V at *
            have hog := HORD.out
            rw [if_neg (by omega)] at hog
            by_cases hk0 : k = 0
            · subst hk0
              have hpv : prevI is 0 = -1 := rfl
              rw [hpv, if_neg (by omega)] at hog
              have HOG := Lib.hid hog
              clear hog hpv g2
              go_upto_region 7 with fail
              go_quiet (fail)
              go_wp2
              go_roundw
              case rel => exact ⟨1, 0, by have := HLT.out; omega, by go_num, rfl, .inl ⟨rfl, by rw [show prevI is 1 = x by rw [show (1 : Nat) = 0 + 1 from rfl, HPS.out, HX.out]]; exact HOG.out⟩, HID.out.go (below_drewN (Below.refl _ _) _)⟩
              case measure => have := HLT.out; simp [intOf]; omega
            · have hkl : k - 1 < is.length := by have := HLT.out; omega
              have g3 := (HID.out.2.2.1 (some ⟨bb, off, none⟩, is) (by simp)).cell (k := k - 1) hkl
              have hpv : prevI is k = is.getD (k - 1) 0 := by rw [prevI, if_neg hk0]
              rw [hpv] at hog
              generalize is.getD (k - 1) 0 = y at *
              have hw2 : IntKind.i64.wrap ((k : Int) - 1) = ((k - 1 : Nat) : Int) := by rw [IntWalk.i64_in _ ⟨by omega, by omega⟩]; omega
              have hkp : decide (0 < k) = true := by simp; omega
              have hkl2 := HLT.out
              have g2' : V.drew.cell? ⟨bb, off + k, none⟩ = some (.int .i64 x) := g2
              have g3' : V.drew.cell? ⟨bb, off + (k - 1), none⟩ = some (.int .i64 y) := g3
              have HOG := Lib.hid hog
              clear hog hpv
              go_upto_region 7 with fail
              by_cases hxy : x ≤ y
              · have hog := HOG.out
                rw [if_pos hxy] at hog
                have HOG2 := Lib.hid hog
                clear hog HOG
                go_quiet (fail)
                go_wp2
                go_roundw
                case rel => exact ⟨k + 1, 7, by have := HLT.out; omega, by go_num, rfl, .inr ⟨by decide, HOG2.out⟩, HID.out.go (below_drewN (Below.refl _ _) _)⟩
                case measure => have := HLT.out; simp [intOf]; omega
              · have hog := HOG.out
                rw [if_neg hxy] at hog
                have HOG2 := Lib.hid hog
                clear hog HOG
                go_quiet (fail)
                go_wp2
                go_roundw
                case rel => exact ⟨k + 1, 0, by have := HLT.out; omega, by go_num, rfl, .inl ⟨rfl, by rw [HPS.out, HX.out]; exact HOG2.out⟩, HID.out.go (below_drewN (Below.refl _ _) _)⟩
                case measure => have := HLT.out; simp [intOf]; omega
          · have hcb := HCK.out
            rw [decide_eq_false hin] at hcb
            have HCB := Lib.hid hcb
            have hog := HORD.out
            rw [if_pos (by omega)] at hog
            have HOG2 := Lib.hid hog
            clear hcb hlt hog
            go_upto_region 5 with fail
            go_region_held3 (fun W => W.cell? ⟨w.heap.size, 1, none⟩ = some (.slice q gs.length c) ∧ W.cell? ⟨bb, off + k, none⟩ = some (.int .i64 x)) (first | exact ⟨k1, g1⟩ | exact ⟨b1, g2⟩ | go_keep)
              (first | (go_at_call 97; have hcc := in_any x 0 ((gs.length : Int) - 1) wr.drew; rw [HCB.out, ← HWR.out] at hcc; (with_reducible refine hcc.mono ?_); clear hcc; rintro e W6 ⟨rfl, rfl⟩))
            go_wp2
            go_roundw
            case rel => exact ⟨k + 1, 2, by have := HLT.out; omega, by go_num, rfl, .inr ⟨by decide, HOG2.out⟩, HID.out⟩
            case measure => have := HLT.out; simp [intOf]; omega
        · obtain rfl : k = is.length := by omega
          rw [List.drop_length, ordErr] at hord
          have hfin : P = if 0 < N5 then (14 : Int) else 0 := by rw [HP.out, hord, if_neg (by simp)]
          have HF := Lib.hid hfin
          have hri := HID.out.2.2.1 (qi, is) (by simp)
          have HRI := Lib.hid hri
          have b0 := HID.out.c (b := w.heap.size) (o := 0) (v := .int .i64 m) (by simp)
          have b1 := HID.out.c (b := w.heap.size) (o := 1) (v := .slice q gs.length c) (by simp)
          clear hord hfin hri
          go_upto_region 9 with fail
          go_region_held3 (fun W => W.cell? ⟨w.heap.size, 0, none⟩ = some (.int .i64 m) ∧ W.cell? ⟨w.heap.size, 1, none⟩ = some (.slice q gs.length c)) (first | exact ⟨k0, k1⟩ | exact ⟨b0, b1⟩ | exact ⟨d0, d1⟩ | exact ⟨e0, e1⟩ | go_keep)
            (first
            | (go_at_call 110; have hcc := CS.out wr.drew (HID.out.1 (q, c, gs) (by simp)) HRI.out; (with_reducible refine hcc.mono ?_); clear hcc; rintro e W6 ⟨q6, c6, rfl, hr6, _, hb6⟩; have J6 := Lib.hid (HID.out.go hb6); have R6 := Lib.hid hr6; have d0 := J6.out.c (b := w.heap.size) (o := 0) (v := .int .i64 m) (by simp); have d1 := J6.out.c (b := w.heap.size) (o := 1) (v := .slice q gs.length c) (by simp); clear hr6 hb6)
            | (go_at_call 99; have hcc := CG.out W6 q6 c6 R6.out; (with_reducible refine hcc.mono ?_); clear hcc; rintro e W7 ⟨q7, c7, rfl, _, hb7⟩; rw [HR5.out, HN5.out]; have J7 := Lib.hid (J6.out.go hb7); have e0 := J7.out.c (b := w.heap.size) (o := 0) (v := .int .i64 m) (by simp); have e1 := J7.out.c (b := w.heap.size) (o := 1) (v := .slice q gs.length c) (by simp); clear hb7)
            | fail)
          all_goals
            clear k0 k1 b0 b1 d0 d1 e0 e1
            go_wp2
          all_goals go_ret
          · have hy : 0 < N5 := by first | assumption | (simp; omega)
            exact ⟨ret_int (by rw [HF.out, if_pos hy]), J7.out.2.2.2.2⟩
          · have hy : ¬ 0 < N5 := by first | assumption | (simp; omega)
            exact ⟨ret_int (by rw [HF.out, if_neg hy]), J7.out.2.2.2.2⟩
      · have hE0 : (E == 0) = false := beq_eq_false_iff_ne.2 hne
        have hfin : P = E := by rw [HP.out, hord, if_pos hne]
        have HF := Lib.hid hfin
        clear hord hfin hne
        by_cases hlt : k < is.length
        · go_upto_region 9 with fail
          go_quiet (fail)
          go_wp2
          go_ret
          exact ⟨ret_int HF.out.symm, (HI.out.go (below_drewN (Below.refl _ _) _)).2.2.2.2⟩
        · go_upto_region 9 with fail
          go_quiet (fail)
          go_wp2
          go_ret
          exact ⟨ret_int HF.out.symm, (HI.out.go (below_drewN (Below.refl _ _) _)).2.2.2.2⟩
  · have hres : provesOf n gs is = E0 := by rw [provesOf, hE, if_pos h0]
    rw [hres]
    have hE0 : (E0 == 0) = false := beq_eq_false_iff_ne.2 h0
    have k0 := HI.out.c (b := w.heap.size) (o := 0) (v := .int .i64 n) (by simp)
    have k1 := HI.out.c (b := w.heap.size) (o := 1) (v := .slice q gs.length c) (by simp)
    clear hres hE h0
    go_enter Try.func40, Try.ntmps40
    go_wp2_with (go_at_call 33; refine (HI.out.scalar (V' := .int .i64 E0) (rCheck_any n q c gs _ (HI.out.1 (q, c, gs) (by simp)).1) (by rw [HE.out])).mono ?_; rintro e W ⟨rfl, hI⟩; replace HI := Lib.hid hI; clear hI k0 k1)
    go_loopw [5, 6] (fun e i wr => e = .int .i64 E0 ∧ i = .int .i64 0 ∧ Inv w wr [(q, c, gs)] [] [(qi, is)] [(w.heap.size, 1, .slice q gs.length c), (w.heap.size, 0, .int .i64 n)]) (fun _ _ _ => 0)
    case atStart => exact ⟨rfl, rfl, HI.out⟩
    case round =>
      clear HI
      obtain ⟨rfl, rfl, hI⟩ := hrel
      have HI := Lib.hid hI
      clear hI
      by_cases hlt : 0 < is.length
      · go_upto_region 9 with fail
        go_quiet (fail)
        go_wp2
        go_ret
        exact ⟨rfl, (HI.out.go (below_drewN (Below.refl _ _) _)).2.2.2.2⟩
      · go_upto_region 9 with fail
        go_quiet (fail)
        go_wp2
        go_ret
        exact ⟨rfl, (HI.out.go (below_drewN (Below.refl _ _) _)).2.2.2.2⟩
end Go.Proofs.Ytcalipoknbbaaaa
namespace Go.Proofs.Ytcalipoknbbaaaa
open Go.RowKit
set_option linter.unusedSimpArgs false
set_option linter.unusedVariables false

theorem worse_max (m : Nat) (gs : List Gl) (g : Gl) : max (yesOf m gs g : Int) (lossOf m gs g : Int) = worse m gs g := by
  have h := yes_loss m gs g
  unfold worse
  rw [cnt_reg, ← h]
  exact Int.max_comm _ _

/-- how far the check of the galleries is -/
def AtG (os : List Gl) (k : Nat) (E : Int) : Prop := (E = 0 ∧ errL os = errL (os.drop k)) ∨ (E ≠ 0 ∧ errL os = E)
/-- how far the choice is -/
def AtA (m : Nat) (gs os : List Gl) (k : Nat) (b l : Int) : Prop := (k = 0 ∧ b = 0 ∧ l = 0) ∨ (0 < k ∧ b = (askTo m gs os k).1 ∧ l = (askTo m gs os k).2)

theorem Inv.twoGG (w : World) (n : Int) (q q2 : Option Addr) (c c2 : Nat) (gs os : List Gl) (hr : RowG w q gs) (hq : q = none → c = 0) (hr2 : RowG w q2 os) (hq2 : q2 = none → c2 = 0) :
    Inv w (w.alloc (.cells #[.int .i64 n, .slice q gs.length c] 32)) [(q2, c2, os), (q, c, gs)] [] [] [(w.heap.size, 1, .slice q gs.length c), (w.heap.size, 0, .int .i64 n)] :=
  (Inv.oneH w n q c gs hr hq).addG (hr2.below (Nat.le_refl _) ((Below.refl _ _).alloc (Nat.le_refl _) _)) hq2

set_option maxRecDepth 100000 in
set_option maxHeartbeats 4000000 in
theorem rAsk_any (n : Int) (q q2 : Option Addr) (c c2 : Nat) (gs os : List Gl) (w : World) (hr : RowG w q gs) (hq : q = none → c = 0) (hr2 : RowG w q2 os) (hq2 : q2 = none → c2 = 0) (hl : os.length ≤ 1000000) :
    Calls Try.prog 42 #[.agg #[.int .i64 n, .slice q gs.length c], .slice q2 os.length c2] w fun e w' => e = .returned (.tuple #[.int .i64 (askOf n gs os).1, .int .i64 (askOf n gs os).2]) ∧ Below w.heap.size w w' := by
  have HI := Lib.hid (Inv.twoGG w n q q2 c c2 gs os hr hq hr2 hq2)
  clear hr hq hr2 hq2
  obtain ⟨E0, hE⟩ : ∃ E, errH n gs = E := ⟨_, rfl⟩
  obtain ⟨A1, A2, hA⟩ : ∃ A1 A2, askOf n gs os = (A1, A2) := ⟨_, _, rfl⟩
  rw [hA]
  have HE := Lib.hid hE
  have k0 := HI.out.c (b := w.heap.size) (o := 0) (v := .int .i64 n) (by simp)
  have k1 := HI.out.c (b := w.heap.size) (o := 1) (v := .slice q gs.length c) (by simp)
  by_cases h0 : E0 = 0
  · subst h0
    by_cases h1 : os.length = 0
    · have hres : (A1, A2) = ((0 : Int), (4 : Int)) := by rw [← hA, askOf, if_neg (by simp [hE]), if_pos h1]
      injection hres with e1 e2
      subst e1; subst e2
      clear hE hA
      go_enter Try.func42, Try.ntmps42
      go_wp2_with (go_at_call 33; refine (HI.out.scalar (V' := .int .i64 0) (rCheck_any n q c gs _ (HI.out.1 (q, c, gs) (by simp)).1) (by rw [HE.out])).mono ?_; rintro e W ⟨rfl, hI⟩; replace HI := Lib.hid hI; clear hI k0 k1)
      go_loopw [6, 7] (fun e i wr => e = .int .i64 4 ∧ i = .int .i64 0 ∧ Inv w wr [(q2, c2, os), (q, c, gs)] [] [] [(w.heap.size, 1, .slice q gs.length c), (w.heap.size, 0, .int .i64 n)]) (fun _ _ _ => 0)
      case atStart => exact ⟨rfl, rfl, HI.out⟩
      case round =>
        clear HI
        obtain ⟨rfl, rfl, hI⟩ := hrel
        have HI := Lib.hid hI
        clear hI
        go_wp2
        go_ret2
        exact ⟨rfl, HI.out.2.2.2.2⟩
    · have h1' : ((os.length : Int) == 0) = false := by simpa using h1
      by_cases h2 : 10 < os.length
      · have hres : (A1, A2) = ((0 : Int), (3 : Int)) := by
          have e : errGs os = 3 := by rw [errGs, if_pos h2]
          rw [← hA, askOf, if_neg (by simp [hE]), if_neg h1, if_pos (by rw [e]; simp), e]
        injection hres with e1 e2
        subst e1; subst e2
        clear hE hA h1
        go_enter Try.func42, Try.ntmps42
        go_wp2_with (go_at_call 33; refine (HI.out.scalar (V' := .int .i64 0) (rCheck_any n q c gs _ (HI.out.1 (q, c, gs) (by simp)).1) (by rw [HE.out])).mono ?_; rintro e W ⟨rfl, hI⟩; replace HI := Lib.hid hI; clear hI k0 k1)
        go_loopw [6, 7] (fun e i wr => e = .int .i64 3 ∧ i = .int .i64 0 ∧ Inv w wr [(q2, c2, os), (q, c, gs)] [] [] [(w.heap.size, 1, .slice q gs.length c), (w.heap.size, 0, .int .i64 n)]) (fun _ _ _ => 0)
        case atStart => exact ⟨rfl, rfl, HI.out⟩
        case round =>
          clear HI
          obtain ⟨rfl, rfl, hI⟩ := hrel
          have HI := Lib.hid hI
          clear hI
          go_wp2
          go_ret2
          exact ⟨rfl, HI.out.2.2.2.2⟩
      · obtain ⟨o1, o2, o3, o4⟩ := errH_ok hE
        obtain ⟨m, rfl⟩ := Int.eq_ofNat_of_zero_le (show 0 ≤ n by omega)
        have hgs := okGs_of o4
        have hm7 : m ≤ 7 := by omega
        have hres : (A1, A2) = if errL os ≠ 0 then (0, errL os) else ((askTo m gs os os.length).1, 0) := by
          have e : errGs os = errL os := by rw [errGs, if_neg h2]
          rw [← hA, askOf, if_neg (by simp [hE]), if_neg h1, e, Int.toNat_natCast]
        have HRES := Lib.hid hres
        have h10 : os.length ≤ 10 := by omega
        have g10 : gs.length ≤ 10 := by omega
        have hop : 0 < os.length := by omega
        have cH := fun (W : World) (g : Gl) (h : RowG W q gs ∧ (q = none → c = 0)) (hg : okG g) => halves_any m q c gs g W hm7 h.1 h.2 hgs hg (by omega)
        have CH := Lib.hid cH
        clear hE hA h1 hres hgs o4 cH
        go_enter Try.func42, Try.ntmps42
        go_wp2_with (go_at_call 33; refine (HI.out.scalar (V' := .int .i64 0) (rCheck_any m q c gs _ (HI.out.1 (q, c, gs) (by simp)).1) (by rw [HE.out])).mono ?_; rintro e W ⟨rfl, hI⟩; replace HI := Lib.hid hI; clear hI k0 k1)
        go_loopw [6, 7] (fun e i wr => ∃ (k : Nat) (E : Int), k ≤ os.length ∧ i = .int .i64 k ∧ e = .int .i64 E ∧ AtG os k E ∧ Inv w wr [(q2, c2, os), (q, c, gs)] [] [] [(w.heap.size, 1, .slice q gs.length c), (w.heap.size, 0, .int .i64 m)]) (fun _ i _ => os.length - (intOf i).toNat)
        case atStart => exact ⟨0, 0, Nat.zero_le _, rfl, rfl, .inl ⟨rfl, rfl⟩, HI.out⟩
        case round =>
          clear HI
          obtain ⟨k, E, hk, rfl, rfl, hat, hI⟩ := hrel
          have HI := Lib.hid hI
          clear hI
          rcases hat with ⟨rfl, herr⟩ | ⟨hne, herr⟩
          · by_cases hlt : k < os.length
            · obtain ⟨bb, off, hqe, hbz, g1, g2, g3⟩ := (HI.out.1 (q2, c2, os) (by simp)).1.at hlt (Nat.le_refl _) (Below.refl _ _)
              dsimp only at hqe g1 g2 g3
              subst hqe
              rw [List.drop_eq_getElem_cons hlt, ← getD_eq os k (0, 0, 0) hlt, errL] at herr
              generalize os.getD k (0, 0, 0) = g at g1 g2 g3 herr
              obtain ⟨ga, gb, gc⟩ := g
              dsimp only at g1 g2 g3
              have HERR := Lib.hid herr
              have HLT := Lib.hid hlt
              obtain ⟨F, hF⟩ : ∃ F, errG (ga, gb, gc) = F := ⟨_, rfl⟩
              have HF := Lib.hid hF
              clear herr hF
              go_wp2_with (go_at_call 102; refine (HI.out.scalar (V' := .int .i64 F) (rchecked_any (ga, gb, gc) _) (by rw [HF.out])).mono ?_; rintro e W ⟨rfl, hI⟩; replace HI := Lib.hid hI; clear hI)
              go_roundw
              case rel =>
                refine ⟨k + 1, F, by have := HLT.out; omega, by go_num, rfl, ?_, HI.out⟩
                have h := HERR.out
                rw [HF.out] at h
                by_cases hf : F = 0
                · rw [if_pos hf] at h; exact .inl ⟨hf, h⟩
                · rw [if_neg hf] at h; exact .inr ⟨hf, h⟩
              case measure => have := HLT.out; simp [intOf]; omega
            · obtain rfl : k = os.length := by omega
              rw [List.drop_length, errL] at herr
              have hok := (errL_zero os).1 herr
              have hfin : (A1, A2) = ((askTo m gs os os.length).1, (0 : Int)) := by rw [HRES.out, if_neg (by simp [herr])]
              have HOK := Lib.hid hok
              have HF := Lib.hid hfin
              clear herr hok hfin HRES
              go_wp2
              go_loopw [8, 9, 10] (fun b l i wr => ∃ (k : Nat) (x y : Int), k ≤ os.length ∧ i = .int .i64 k ∧ b = .int .i64 x ∧ l = .int .i64 y ∧ AtA m gs os k x y ∧ Inv w wr [(q2, c2, os), (q, c, gs)] [] [] [(w.heap.size, 1, .slice q gs.length c), (w.heap.size, 0, .int .i64 m)]) (fun _ _ i _ => os.length - (intOf i).toNat)
              case atStart => exact ⟨0, 0, 0, Nat.zero_le _, rfl, rfl, rfl, .inl ⟨rfl, rfl, rfl⟩, HI.out⟩
              case round =>
                clear HI
                obtain ⟨k, x, y, hk, rfl, rfl, rfl, hat, hI⟩ := hrel
                have HI := Lib.hid hI
                clear hI
                have k0 := HI.out.c (b := w.heap.size) (o := 0) (v := .int .i64 m) (by simp)
                have k1 := HI.out.c (b := w.heap.size) (o := 1) (v := .slice q gs.length c) (by simp)
                by_cases hlt : k < os.length
                · obtain ⟨bb, off, hqe, hbz, g1, g2, g3⟩ := (HI.out.1 (q2, c2, os) (by simp)).1.at hlt (Nat.le_refl _) (Below.refl _ _)
                  dsimp only at hqe g1 g2 g3
                  subst hqe
                  have hgo := HOK.out _ (getD_mem os k (0, 0, 0) hlt)
                  have hst := askTo.eq_2 m gs os k
                  have hwm := worse_max m gs (os.getD k (0, 0, 0))
                  generalize os.getD k (0, 0, 0) = g at g1 g2 g3 hgo hst hwm
                  obtain ⟨ga, gb, gc⟩ := g
                  dsimp only at g1 g2 g3
                  have HOG := Lib.hid (errG_ok hgo).1
                  have hls := lossOf_le gs (ga, gb, gc) hm7
                  have hyl : yesOf m gs (ga, gb, gc) ≤ 49 := by
                    have h1 := yes_loss m gs (ga, gb, gc)
                    have h2 := regL_len m gs hm7
                    omega
                  have hH := CH.out wr.drew (ga, gb, gc)
                  generalize lossOf m gs (ga, gb, gc) = ls at *
                  generalize yesOf m gs (ga, gb, gc) = ys at *
                  rw [← hwm] at hst
                  have HST := Lib.hid hst
                  have HLT := Lib.hid hlt
                  have HAT := Lib.hid hat
                  have HH := Lib.hid hH
                  have HID := Lib.hid (HI.out.go (Below.refl _ _).drew)
                  clear hst hgo hwm hat hH
                  have b0 := HID.out.c (b := w.heap.size) (o := 0) (v := .int .i64 m) (by simp)
                  have b1 := HID.out.c (b := w.heap.size) (o := 1) (v := .slice q gs.length c) (by simp)
                  have i1 : wr.drew.cell? ⟨bb, off + k * 3, none⟩ = some (.int .i64 ga) := g1
                  have i2 : wr.drew.cell? ⟨bb, off + k * 3 + 1, none⟩ = some (.int .i64 gb) := g2
                  have i3 : wr.drew.cell? ⟨bb, off + k * 3 + 2, none⟩ = some (.int .i64 gc) := g3
                  go_upto_region 16 with fail
                  go_region_held3 (fun W => W.cell? ⟨w.heap.size, 0, none⟩ = some (.int .i64 m) ∧ W.cell? ⟨w.heap.size, 1, none⟩ = some (.slice q gs.length c) ∧ W.cell? ⟨bb, off + k * 3, none⟩ = some (.int .i64 ga) ∧ W.cell? ⟨bb, off + k * 3 + 1, none⟩ = some (.int .i64 gb) ∧ W.cell? ⟨bb, off + k * 3 + 2, none⟩ = some (.int .i64 gc)) (first | exact ⟨k0, k1, g1, g2, g3⟩ | exact ⟨b0, b1, i1, i2, i3⟩ | exact ⟨d0, d1, d2, d3, d4⟩ | go_keep)
                    (first | (go_at_call 104; have hcc := HH.out (HID.out.1 (q, c, gs) (by simp)) HOG.out; (with_reducible refine hcc.mono ?_); clear hcc; rintro e V ⟨rfl, hb⟩; have J := Lib.hid (HID.out.go hb); have d0 := J.out.c (b := w.heap.size) (o := 0) (v := .int .i64 m) (by simp); have d1 := J.out.c (b := w.heap.size) (o := 1) (v := .slice q gs.length c) (by simp); have d2 := (hb.cell (p := ⟨bb, off + k * 3, none⟩) hbz).trans i1; have d3 := (hb.cell (p := ⟨bb, off + k * 3 + 1, none⟩) hbz).trans i2; have d4 := (hb.cell (p := ⟨bb, off + k * 3 + 2, none⟩) hbz).trans i3; clear hb) | fail)
                  all_goals
                    clear k0 k1 g1 g2 g3 b0 b1 i1 i2 i3 d0 d1 d2 d3 d4
                  by_cases hk0 : k = 0
                  · subst hk0
                    have hmx : max (ys : Int) (ls : Int) ≤ 49 := Int.max_le.2 ⟨by omega, by omega⟩
                    have e1 := HST.out
                    rw [if_pos (by show _ < (9223372036854775807 : Int); omega)] at e1
                    have E1 := Lib.hid e1
                    clear e1 hmx
                    go_wp2
                    go_roundw
                    case rel => exact ⟨1, 0, max (ys : Int) (ls : Int), by omega, rfl, rfl, rfl, .inr ⟨by omega, by rw [E1.out]; rfl, by rw [E1.out]⟩, J.out⟩
                    case measure => have := HLT.out; simp [intOf]; omega
                  · have hkp : ((k : Int) == 0) = false := beq_eq_false_iff_ne.2 (by omega)
                    rcases HAT.out with ⟨h, _⟩ | ⟨_, hx, hy⟩
                    · exact absurd h hk0
                    have e1 := HST.out
                    rw [← hy] at e1
                    have HX := Lib.hid hx
                    have HY := Lib.hid hy
                    clear hx hy
                    by_cases hlt3 : max (ys : Int) (ls : Int) < y
                    · rw [if_pos hlt3] at e1
                      have E1 := Lib.hid e1
                      clear e1
                      go_wp2
                      go_roundw
                      case rel => exact ⟨k + 1, (k : Int), max (ys : Int) (ls : Int), by have := HLT.out; omega, by go_num, rfl, rfl, .inr ⟨by omega, by rw [E1.out], by rw [E1.out]⟩, J.out⟩
                      case measure => have := HLT.out; simp [intOf]; omega
                    · rw [if_neg hlt3] at e1
                      have E1 := Lib.hid e1
                      clear e1
                      go_wp2
                      go_roundw
                      case rel => exact ⟨k + 1, x, y, by have := HLT.out; omega, by go_num, rfl, rfl, .inr ⟨by omega, by rw [E1.out]; exact HX.out, by rw [E1.out]; exact HY.out⟩, J.out⟩
                      case measure => have := HLT.out; simp [intOf]; omega
                · obtain rfl : k = os.length := by omega
                  rcases hat with ⟨h, _⟩ | ⟨_, hx, hy⟩
                  · omega
                  have hf := HF.out
                  rw [← hx] at hf
                  injection hf with f1 f2
                  subst f1; subst f2
                  clear hx hy
                  go_wp2
                  go_ret2
                  exact ⟨rfl, HI.out.2.2.2.2⟩
          · have hE0 : (E == 0) = false := beq_eq_false_iff_ne.2 hne
            have hE1 : (E != 0) = true := by simp [hne]
            have hf := HRES.out
            rw [herr, if_pos hne] at hf
            injection hf with f1 f2
            subst f1; subst f2
            clear herr hne
            by_cases hlt : k < os.length
            · go_wp2
              go_ret2
              exact ⟨rfl, HI.out.2.2.2.2⟩
            · go_wp2
              go_ret2
              exact ⟨rfl, HI.out.2.2.2.2⟩
  · have hres : (A1, A2) = ((0 : Int), E0) := by rw [← hA, askOf, hE, if_pos h0]
    injection hres with e1 e2
    subst e1; subst e2
    have hE0 : (A2 == 0) = false := beq_eq_false_iff_ne.2 h0
    have hE1 : (A2 != 0) = true := by simp [h0]
    clear hE hA h0
    go_enter Try.func42, Try.ntmps42
    go_wp2_with (go_at_call 33; refine (HI.out.scalar (V' := .int .i64 A2) (rCheck_any n q c gs _ (HI.out.1 (q, c, gs) (by simp)).1) (by rw [HE.out])).mono ?_; rintro e W ⟨rfl, hI⟩; replace HI := Lib.hid hI; clear hI k0 k1)
    go_loopw [6, 7] (fun e i wr => e = .int .i64 A2 ∧ i = .int .i64 0 ∧ Inv w wr [(q2, c2, os), (q, c, gs)] [] [] [(w.heap.size, 1, .slice q gs.length c), (w.heap.size, 0, .int .i64 n)]) (fun _ _ _ => 0)
    case atStart => exact ⟨rfl, rfl, HI.out⟩
    case round =>
      clear HI
      obtain ⟨rfl, rfl, hI⟩ := hrel
      have HI := Lib.hid hI
      clear hI
      by_cases hlt : 0 < os.length
      · go_wp2
        go_ret2
        exact ⟨rfl, HI.out.2.2.2.2⟩
      · go_wp2
        go_ret2
        exact ⟨rfl, HI.out.2.2.2.2⟩
end Go.Proofs.Ytcalipoknbbaaaa
