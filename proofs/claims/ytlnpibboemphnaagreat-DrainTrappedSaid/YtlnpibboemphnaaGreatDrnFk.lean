/- P2.8 plainly: the dues of a hill charge no channel more than its cost, are together what a cheapest plan costs, and charge a channel of a cheapest plan just its cost. -/
import Derived.Test.YtlnpibboemphnaaGreatQa7
namespace Go.Proofs.YtlnpibboemphnaaGreat.drn
set_option linter.unusedSimpArgs false
set_option linter.unusedVariables false
/-- some channels, one from each gallery of a set, all of a list, by which all of them drain -/
def DrainedA (n : Nat) (cs A : List Ch) (d : Nat) : Prop :=
  ∃ P : Nat → Bool, (∀ i, i < cs.length → P i = true → inS d (chAt cs i).1 = true ∧ chAt cs i ∈ A) ∧
    (∀ i j, i < cs.length → j < cs.length → P i = true → P j = true → (chAt cs i).1 = (chAt cs j).1 → i = j) ∧
    ∀ g : Nat, inS d g = true → (∃ i, i < cs.length ∧ P i = true ∧ (chAt cs i).1 = g) ∧ Wet n (chosenS cs (selP cs P)) g
theorem drainedA_step {n : Nat} {cs A : List Ch} (hc : ∀ c ∈ cs, ChOk n c) (hA : ∀ c ∈ A, c ∈ cs) : ∀ (r : List Ch) (d : Nat), (∀ c ∈ r, c ∈ A) → DrainedA n cs A d → DrainedA n cs A (wetStep n r d)
  | [], d, _, h => h
  | c :: r, d, hr, h => by
    unfold wetStep
    rw [List.foldl_cons]
    refine drainedA_step hc hA r _ (fun x hx => hr x (by simp [hx])) ?_
    split
    · rename_i hw
      have hmA := hr c (by simp)
      have hm := hA c hmA
      obtain ⟨⟨a0, a1⟩, ⟨b0, b1⟩, _⟩ := hc c hm
      have e1 : ((c.1.toNat : Nat) : Int) = c.1 := by omega
      have e2 : ((c.2.1.toNat : Nat) : Int) = c.2.1 := by omega
      cases hin : inS d c.1 with
      | true =>
        have hd : d ||| 1 <<< c.1.toNat = d := by
          apply Nat.eq_of_testBit_eq
          intro j
          rw [Nat.testBit_or, bit_one]
          by_cases e : c.1.toNat = j
          · subst e
            unfold inS at hin
            rw [Bool.and_eq_true] at hin
            rw [hin.2]; rfl
          · simp [e]
        rw [hd]; exact h
      | false =>
        obtain ⟨P, p1, p2, p3⟩ := h
        obtain ⟨i, hi, rfl⟩ := List.getElem_of_mem hm
        have hci : chAt cs i = cs[i] := by rw [chAt, List.getD_eq_getElem?_getD, List.getElem?_eq_getElem hi]; rfl
        refine ⟨fun j => P j || decide (j = i), ?_, ?_, ?_⟩
        · intro j hj hp
          rw [inS_or, Bool.or_eq_true]
          rcases Bool.or_eq_true _ _ ▸ hp with hp | hp
          · exact ⟨.inl (p1 j hj hp).1, (p1 j hj hp).2⟩
          · have e := of_decide_eq_true hp
            subst e
            rw [hci]
            refine ⟨?_, hmA⟩
            rw [← e1, inS_one]
            exact .inr (by simp; omega)
        · intro j k hj hk hpj hpk he
          rcases Bool.or_eq_true _ _ ▸ hpj with h1 | h1 <;> rcases Bool.or_eq_true _ _ ▸ hpk with h2 | h2
          · exact p2 j k hj hk h1 h2 he
          · have e := of_decide_eq_true h2
            subst e
            have := (p1 j hj h1).1
            rw [he, hci, hin] at this
            cases this
          · have e := of_decide_eq_true h1
            subst e
            have := (p1 k hk h2).1
            rw [← he, hci, hin] at this
            cases this
          · rw [of_decide_eq_true h1, of_decide_eq_true h2]
        · have hsub : ∀ x ∈ chosenS cs (selP cs P), x ∈ chosenS cs (selP cs fun j => P j || decide (j = i)) := by
            intro x hx
            obtain ⟨j, h1, h2, h3⟩ := mem_selP.1 hx
            exact mem_selP.2 ⟨j, h1, by simp [h2], h3⟩
          intro g hg
          rw [inS_or, Bool.or_eq_true] at hg
          rcases hg with hg | hg
          · obtain ⟨⟨j, h1, h2, h3⟩, h4⟩ := p3 g hg
            exact ⟨⟨j, h1, by simp [h2], h3⟩, h4.mono hsub⟩
          · rw [inS_one] at hg
            have eg := of_decide_eq_true hg
            have egi : (g : Int) = cs[i].1 := by omega
            refine ⟨⟨i, hi, by simp, by rw [hci, egi]⟩, ?_⟩
            rw [egi, ← hci]
            refine Wet.step (chAt cs i) (mem_selP.2 ⟨i, hi, by simp, rfl⟩) ?_
            rw [hci]
            simp only [Bool.or_eq_true, beq_iff_eq] at hw
            rcases hw with hw | hw
            · rw [hw]; exact Wet.mouth
            · rw [← e2] at hw ⊢
              exact (p3 _ hw).2.mono hsub
    · exact h
theorem drainedA_to {n : Nat} {cs A : List Ch} (hc : ∀ c ∈ cs, ChOk n c) (hA : ∀ c ∈ A, c ∈ cs) : ∀ k, DrainedA n cs A (wetTo n A k 0)
  | 0 => ⟨fun _ => false, by simp, by simp, fun g hg => by simp [wetTo, inS] at hg⟩
  | k + 1 => by rw [wetTo_step]; exact drainedA_step hc hA A _ (fun _ h => h) (drainedA_to hc hA k)
/-- a plan of some of the channels -/
theorem planA_in {n : Nat} {cs A : List Ch} (hn : n ≤ 6) (hc : ∀ c ∈ cs, ChOk n c) (hA : ∀ c ∈ A, c ∈ cs) (hw : wetS n A = allS n) : ∃ l, Plan n cs l ∧ ∀ c ∈ chosenS cs l, c ∈ A := by
  obtain ⟨P, p1, p2, p3⟩ := drainedA_to hc hA 7
  have hw' : wetTo n A 7 0 = allS n := hw
  rw [hw'] at p1 p3
  have hall : ∀ g : Nat, g < n → inS (allS n) g = true := (allS_iff (s := allS n) (by have := Nat.two_pow_pos n; unfold allS; omega)).1 rfl
  have hok : ∀ i, i < cs.length → ChOk n (chAt cs i) := fun i hi => getD_ok hc hi
  obtain ⟨m1, m2⟩ := ext_of cs ((List.range cs.length).filter P) 0 0 (List.Pairwise.sublist List.filter_sublist List.pairwise_lt_range) (fun i hi => by
    have hi' := List.mem_range.1 (List.mem_filter.1 hi).1
    exact ⟨Nat.zero_le _, hi', (hok i hi').1.1, by simp [inS]⟩) (by
    refine List.Pairwise.imp_of_mem ?_ (List.Pairwise.sublist List.filter_sublist (List.pairwise_lt_range (n := cs.length)))
    intro a b ha hb hlt he
    obtain ⟨ha1, ha2⟩ := List.mem_filter.1 ha
    obtain ⟨hb1, hb2⟩ := List.mem_filter.1 hb
    have := p2 a b (List.mem_range.1 ha1) (List.mem_range.1 hb1) ha2 hb2 he
    omega)
  have hsA : ∀ c ∈ chosenS cs (selP cs P), c ∈ A := fun c hm => by
    obtain ⟨i, h1, h2, rfl⟩ := mem_selP.1 hm
    exact (p1 i h1 h2).2
  have hc2 : ∀ c ∈ chosenS cs (selP cs P), ChOk n c := fun c hm => hc c (hA c (hsA c hm))
  refine ⟨selP cs P, ⟨m1, ?_, (wetS_all hn hc2).2 fun g hg => (p3 g (hall g hg)).2⟩, hsA⟩
  refine (allS_iff ((Ext.size hn hc _ 0 0 m1).2 (Nat.two_pow_pos n))).2 fun g hg => (m2 g).2 (.inr ?_)
  obtain ⟨i, h1, h2, h3⟩ := (p3 g (hall g hg)).1
  exact ⟨i, List.mem_filter.2 ⟨List.mem_range.2 h1, h2⟩, h3⟩

/-! sums -/
def sumC (f : Ch → Int) (L : List Ch) : Int := (L.map f).sum
theorem sumC_cons (f : Ch → Int) (c : Ch) (L : List Ch) : sumC f (c :: L) = f c + sumC f L := by simp [sumC]
theorem sumC_erase (f : Ch → Int) : ∀ (L : List Ch) (c : Ch), c ∈ L → sumC f L = f c + sumC f (L.erase c)
  | [], c, h => by cases h
  | x :: r, c, h => by
    by_cases e : x = c
    · subst e; rw [List.erase_cons_head, sumC_cons]
    · have hc : c ∈ r := (List.mem_cons.1 h).resolve_left fun h => e h.symm
      rw [List.erase_cons_tail (by simpa using e), sumC_cons, sumC_cons, sumC_erase f r c hc]
      omega
theorem sumC_nonneg (f : Ch → Int) : ∀ (L : List Ch), (∀ c ∈ L, 0 ≤ f c) → 0 ≤ sumC f L
  | [], _ => by simp [sumC]
  | c :: r, h => by
    rw [sumC_cons]
    have h1 := h c (by simp)
    have h2 := sumC_nonneg f r fun x hx => h x (by simp [hx])
    omega
theorem sumC_le (f : Ch → Int) : ∀ (L K : List Ch), L.Nodup → (∀ c ∈ K, 0 ≤ f c) → (∀ c ∈ L, c ∈ K ∨ f c = 0) → sumC f L ≤ sumC f K
  | [], K, _, h0, _ => by have := sumC_nonneg f K h0; simpa [sumC] using this
  | c :: r, K, hn, h0, h => by
    rw [List.nodup_cons] at hn
    rw [sumC_cons]
    by_cases hm : c ∈ K
    · rw [sumC_erase f K c hm]
      have := sumC_le f r (K.erase c) hn.2 (fun x hx => h0 x (List.mem_of_mem_erase hx)) fun x hx => by
        rcases h x (by simp [hx]) with h1 | h1
        · have : x ≠ c := fun e => hn.1 (e ▸ hx)
          exact .inl ((List.mem_erase_of_ne this).2 h1)
        · exact .inr h1
      omega
    · rcases h c (by simp) with h1 | h1
      · exact absurd h1 hm
      · have := sumC_le f r K hn.2 h0 fun x hx => h x (by simp [hx])
        omega
theorem sumC_congr {f g : Ch → Int} : ∀ (L : List Ch), (∀ c ∈ L, f c = g c) → sumC f L = sumC g L
  | [], _ => rfl
  | c :: r, h => by rw [sumC_cons, sumC_cons, h c (by simp), sumC_congr r fun x hx => h x (by simp [hx])]
theorem sumC_mono {f g : Ch → Int} : ∀ (L : List Ch), (∀ c ∈ L, f c ≤ g c) → sumC f L ≤ sumC g L ∧ (sumC f L = sumC g L → ∀ c ∈ L, f c = g c)
  | [], _ => ⟨Int.le_refl _, fun _ c h => by cases h⟩
  | c :: r, h => by
    rw [sumC_cons, sumC_cons]
    have h1 := h c (by simp)
    obtain ⟨h2, h3⟩ := sumC_mono r fun x hx => h x (by simp [hx])
    refine ⟨by omega, fun e x hx => ?_⟩
    rcases List.mem_cons.1 hx with rfl | hx
    · omega
    · exact h3 (by omega) x hx
theorem sumC_add (f g : Ch → Int) : ∀ (L : List Ch), sumC (fun c => f c + g c) L = sumC f L + sumC g L
  | [] => rfl
  | c :: r => by rw [sumC_cons, sumC_cons, sumC_cons, sumC_add f g r]; omega
def price (c : Ch) : Int := c.2.2
theorem costS_eq (cs : List Ch) (l : List Int) : costS cs l = sumC price (chosenS cs l) := by
  have key : ∀ (l : List Int) (k : Int), l.foldl (fun k i => k + (cs.getD i.toNat (0, 0, 0)).2.2) k = k + sumC price (chosenS cs l) := by
    intro l
    induction l with
    | nil => intro k; simp [sumC, chosenS]
    | cons x r ih =>
      intro k
      rw [List.foldl_cons, ih]
      show _ = k + sumC price ((cs.getD x.toNat (0, 0, 0)) :: chosenS cs r)
      rw [sumC_cons]
      unfold price
      omega
  have := key l 0
  unfold costS
  omega
/-- what dues pay together -/
def sumP (ds : List Du) : Int := (ds.map (·.2)).sum
theorem sumP_cons (d : Du) (ds : List Du) : sumP (d :: ds) = d.2 + sumP ds := by simp [sumP]
theorem sumP_eq (ds : List Du) : ds.foldl (fun k d => k + d.2) 0 = sumP ds := by
  have key : ∀ (l : List Du) (k : Int), l.foldl (fun k d => k + d.2) k = k + sumP l := by
    intro l
    induction l with
    | nil => intro k; simp [sumP]
    | cons x r ih => intro k; rw [List.foldl_cons, ih, sumP_cons]; omega
  have := key ds 0
  omega
theorem chargeOne_cons (d : Du) (ds : List Du) (c : Ch) : chargeOne (d :: ds) c = (if leavesS (setS d.1) c then d.2 else 0) + chargeOne ds c := by
  have key : ∀ (l : List Du) (k : Int), l.foldl (fun k d => if leavesS (setS d.1) c then k + d.2 else k) k = k + l.foldl (fun k d => if leavesS (setS d.1) c then k + d.2 else k) 0 := by
    intro l
    induction l with
    | nil => intro k; simp
    | cons x r ih =>
      intro k
      rw [List.foldl_cons, List.foldl_cons, ih, ih (if leavesS (setS x.1) c = true then 0 + x.2 else 0)]
      split <;> omega
  unfold chargeOne
  rw [List.foldl_cons, key]
  split <;> omega
theorem setS_listS {s : Nat} (hs : s < 64) : setS (listS s) = s := by
  have h : ∀ s : Nat, s < 64 → setS (listS s) = s := by decide +kernel
  exact h s hs

/-! plans -/
theorem ext_apart {n : Nat} {cs : List Ch} (hc : ∀ c ∈ cs, ChOk n c) : ∀ (l : List Int) (lo s : Nat), Ext cs lo s l → (∀ c ∈ chosenS cs l, inS s c.1 = false ∧ c ∈ cs) ∧ (chosenS cs l).Nodup
  | [], _, _, _ => ⟨fun c h => (by cases h), List.nodup_nil⟩
  | x :: r, lo, s, ⟨⟨h1, h2⟩, h3, h4⟩ => by
    obtain ⟨i1, i2⟩ := ext_apart hc r _ _ h4
    have hx : x.toNat < cs.length := by omega
    have hm : cs.getD x.toNat (0, 0, 0) ∈ cs := getD_mem cs _ _ hx
    have h0 := (hc _ hm).1.1
    have ef : (((frm cs x).toNat : Nat) : Int) = frm cs x := by unfold frm; omega
    have hin : ∀ c ∈ chosenS cs r, inS s c.1 = false ∧ c.1 ≠ frm cs x ∧ c ∈ cs := fun c hm => by
      obtain ⟨k1, k2⟩ := i1 c hm
      rw [inS_or, Bool.or_eq_false_iff] at k1
      refine ⟨k1.1, fun e => ?_, k2⟩
      have k3 := k1.2
      rw [e] at k3
      have kk : ∀ (m : Nat) (y : Int), (m : Int) = y → inS (1 <<< m) y = true := fun m y hy => by rw [← hy, inS_one]; simp
      rw [kk _ _ ef] at k3
      cases k3
    have e : chosenS cs (x :: r) = cs.getD x.toNat (0, 0, 0) :: chosenS cs r := rfl
    rw [e]
    refine ⟨fun c hcm => ?_, List.nodup_cons.2 ⟨fun hcm => ?_, i2⟩⟩
    · rcases List.mem_cons.1 hcm with rfl | hcm
      · exact ⟨h3, hm⟩
      · exact ⟨(hin c hcm).1, (hin c hcm).2.2⟩
    · exact (hin _ hcm).2.1 rfl
/-- a plan leaves each group -/
theorem plan_leaves {n : Nat} {cs : List Ch} (hn : n ≤ 6) (hc : ∀ c ∈ cs, ChOk n c) {l : List Int} (hp : Plan n cs l) {s : Nat} (hs : s ∈ groupsS n 0) : ∃ c ∈ chosenS cs l, leavesS s c = true := by
  apply Classical.byContradiction
  intro hno
  have hcc : ∀ c ∈ chosenS cs l, ChOk n c := fun c hm => hc c ((ext_apart hc l 0 0 hp.1).1 c hm).2
  refine (trap_iff hn hcc).1 ⟨s, hs, fun c hm => ?_⟩ hp.2.2
  apply Classical.byContradiction
  intro h
  exact hno ⟨c, hm, by simpa using h⟩
/-- what dues of groups pay together is at most what they charge a plan -/
theorem charge_plan {n : Nat} {cs : List Ch} (hn : n ≤ 6) (hc : ∀ c ∈ cs, ChOk n c) {l : List Int} (hp : Plan n cs l) : ∀ (ds : List Du), (∀ d ∈ ds, setS d.1 ∈ groupsS n 0 ∧ 0 ≤ d.2) → sumP ds ≤ sumC (chargeOne ds) (chosenS cs l)
  | [], _ => by
    have : sumC (chargeOne []) (chosenS cs l) = 0 := by
      generalize chosenS cs l = L
      induction L with
      | nil => rfl
      | cons c r ih => rw [sumC_cons, ih]; rfl
    rw [this]; simp [sumP]
  | d :: ds, h => by
    have ih := charge_plan hn hc hp ds fun x hx => h x (by simp [hx])
    obtain ⟨hs, h0⟩ := h d (by simp)
    obtain ⟨c, hm, hl⟩ := plan_leaves hn hc hp hs
    rw [sumP_cons, sumC_congr (g := fun c => (if leavesS (setS d.1) c then d.2 else 0) + chargeOne ds c) _ (fun c _ => chargeOne_cons d ds c), sumC_add]
    have h1 := sumC_erase (fun c => if leavesS (setS d.1) c then d.2 else 0) (chosenS cs l) c hm
    have h2 := sumC_nonneg (fun c => if leavesS (setS d.1) c then d.2 else 0) ((chosenS cs l).erase c) (fun x _ => by show 0 ≤ (if leavesS (setS d.1) x then d.2 else 0); split <;> omega)
    rw [if_pos hl] at h1
    omega
/-! what is left -/
def tk (s : Nat) (y : Int) (c : Ch) : Ch := if leavesS s c then (c.1, c.2.1, c.2.2 - y) else c
theorem tk_ends (s : Nat) (y : Int) (c : Ch) : ends (tk s y c) = ends c := by
  unfold tk
  split <;> rfl
theorem leaves_ends {s : Nat} {c d : Ch} (h : ends c = ends d) : leavesS s c = leavesS s d := by
  unfold ends at h
  unfold leavesS
  injection h with h1 h2
  rw [h1, h2]
theorem chargeOne_ends {c d : Ch} (h : ends c = ends d) : ∀ ds : List Du, chargeOne ds c = chargeOne ds d
  | [] => rfl
  | x :: r => by rw [chargeOne_cons, chargeOne_cons, leaves_ends h, chargeOne_ends h r]
theorem take_map (cs : List Ch) (s : Nat) (y : Int) : takeLeft cs s y = cs.map (tk s y) := rfl
theorem take_getD (cs : List Ch) (s : Nat) (y : Int) {i : Nat} (hi : i < cs.length) : (takeLeft cs s y).getD i (0, 0, 0) = tk s y (cs.getD i (0, 0, 0)) := by
  rw [take_map, getD_eq _ i _ (by simpa using hi), getD_eq cs i _ hi, List.getElem_map]
theorem chosen_take {cs : List Ch} {s : Nat} {y : Int} : ∀ {l : List Int}, InR cs l → chosenS (takeLeft cs s y) l = (chosenS cs l).map (tk s y)
  | [], _ => rfl
  | x :: r, h => by
    have hx := h x (by simp)
    show (takeLeft cs s y).getD x.toNat (0, 0, 0) :: chosenS (takeLeft cs s y) r = tk s y (cs.getD x.toNat (0, 0, 0)) :: (chosenS cs r).map (tk s y)
    rw [take_getD cs s y (by omega), chosen_take fun z hz => h z (by simp [hz])]
theorem ends_tk (s : Nat) (y : Int) (L : List Ch) : (L.map (tk s y)).map ends = L.map ends := by
  rw [List.map_map]
  exact List.map_congr_left fun c _ => tk_ends s y c
theorem ext_take {cs : List Ch} {t : Nat} {y : Int} : ∀ (l : List Int) (lo s : Nat), InR cs l → (Ext (takeLeft cs t y) lo s l ↔ Ext cs lo s l) ∧ addS (takeLeft cs t y) s l = addS cs s l
  | [], lo, s, _ => ⟨Iff.rfl, rfl⟩
  | x :: r, lo, s, h => by
    have hx := h x (by simp)
    have hf : frm (takeLeft cs t y) x = frm cs x := by
      unfold frm
      rw [take_getD cs t y (by omega)]
      have h := tk_ends t y (cs.getD x.toNat (0, 0, 0))
      unfold ends at h
      exact congrArg (fun p : Int × Int => p.1) h
    have hl : (takeLeft cs t y).length = cs.length := by simp [takeLeft]
    obtain ⟨i1, i2⟩ := ext_take (cs := cs) (t := t) (y := y) r (x.toNat + 1) (s ||| 1 <<< (frm cs x).toNat) fun z hz => h z (by simp [hz])
    refine ⟨?_, ?_⟩
    · show (_ ∧ x < ((takeLeft cs t y).length : Int)) ∧ _ ∧ _ ↔ (_ ∧ x < (cs.length : Int)) ∧ _ ∧ _
      rw [hf, hl, i1]
    · show addS (takeLeft cs t y) (s ||| 1 <<< (frm (takeLeft cs t y) x).toNat) r = addS cs (s ||| 1 <<< (frm cs x).toNat) r
      rw [hf, i2]
theorem plan_take {n : Nat} {cs : List Ch} {s : Nat} {y : Int} {l : List Int} : Plan n (takeLeft cs s y) l ↔ Plan n cs l := by
  have hl : (takeLeft cs s y).length = cs.length := by simp [takeLeft]
  have key : InR cs l → (Plan n (takeLeft cs s y) l ↔ Plan n cs l) := fun h => by
    obtain ⟨i1, i2⟩ := ext_take (t := s) (y := y) l 0 0 h
    unfold Plan
    rw [i1, i2, chosen_take h]
    have := wetTo_alike n (ends_tk s y (chosenS cs l)) 7 0
    have hw : wetS n ((chosenS cs l).map (tk s y)) = wetS n (chosenS cs l) := this
    rw [hw]
  constructor
  · intro h
    refine (key fun x hx => ?_).1 h
    have := ext_in h.1 x hx
    rw [hl] at this
    exact this
  · intro h
    exact (key (ext_in h.1)).2 h
/-- the first payer: its galleries, and what is left of smaller groups -/
theorem payer_some {n : Nat} {cs : List Ch} {s : Nat} (h : payerS n cs = some s) : s ∈ groupsS n 0 ∧ cs.any (spentC s) = false ∧ ∀ t, t ∈ groupsS n 0 → t ≠ s → t &&& s = t → cs.any (spentC t) = true := by
  obtain ⟨h1, h2⟩ := payer_in h
  refine ⟨h1, h2, fun t ht hne hsub => ?_⟩
  rw [payerS_eq] at h
  have h3 := List.find?_some h
  cases hq : cs.any (spentC t) with
  | true => rfl
  | false =>
    have : (payersS n cs).any (smaller s) = true := List.any_eq_true.2 ⟨t, by rw [payersS_eq]; exact List.mem_filter.2 ⟨ht, by simp [hq]⟩, by unfold smaller; simp [hne, hsub]⟩
    rw [this] at h3
    cases h3
/-- no payer: each group has a channel out of which nothing is left -/
theorem payer_none {n : Nat} {cs : List Ch} (h : payerS n cs = none) : ∀ t, t ∈ groupsS n 0 → cs.any (spentC t) = true := by
  rw [payerS_eq, List.find?_eq_none] at h
  have key : ∀ (k t : Nat), t ≤ k → t ∉ payersS n cs := by
    intro k
    induction k with
    | zero =>
      intro t ht hm
      rw [payersS_eq] at hm
      have := (mem_groups.1 (List.mem_filter.1 hm).1).1
      omega
    | succ k ih =>
      intro t ht hm
      have h1 := h t hm
      have h2 : (payersS n cs).any (smaller t) = true := by simpa using h1
      obtain ⟨u, hu, hs⟩ := List.any_eq_true.1 h2
      unfold smaller at hs
      simp only [Bool.and_eq_true, bne_iff_ne, ne_eq, beq_iff_eq] at hs
      have hle : u ≤ t := by rw [← hs.2]; exact Nat.and_le_right
      exact ih u (by omega) hu
  intro t ht
  cases hq : cs.any (spentC t) with
  | true => rfl
  | false => exact absurd (by rw [payersS_eq]; exact List.mem_filter.2 ⟨ht, by simp [hq]⟩) (key t t (Nat.le_refl _))
theorem inS_and (s t : Nat) (g : Int) : inS (s &&& t) g = (inS s g && inS t g) := by
  unfold inS
  rw [Nat.testBit_and]
  cases decide (0 ≤ g) <;> simp
theorem inS_zero (g : Int) : inS 0 g = false := by simp [inS]
set_option maxRecDepth 10000 in
/-- a plan of what is left, turned into one from which the payers leave once -/
theorem step_plan {n : Nat} {cs : List Ch} (hc : Chs n cs) (hw : wetS n cs = allS n) {s : Nat} (hp : payerS n cs = some s) {l : List Int} (hl : Plan n cs l) :
    ∃ l', Plan n cs l' ∧ costS cs l' ≤ leastLeft cs s + costS (takeLeft cs s (leastLeft cs s)) l := by
  obtain ⟨hsg, hsp, hmin⟩ := payer_some hp
  obtain ⟨s0, s1⟩ := mem_groups.1 hsg
  have hex := leaves_some hc hw hsg
  have hct := take_ok hc hex
  generalize leastLeft cs s = y at hct
  obtain ⟨hLc, hLn⟩ := ext_apart hc.ok l 0 0 hl.1
  have hcost : costS (takeLeft cs s y) l = sumC (fun c => price (tk s y c)) (chosenS cs l) := by
    rw [costS_eq, chosen_take (ext_in hl.1)]
    unfold sumC
    rw [List.map_map]
    rfl
  have hpl := fun g hg => plan_leaves hc.n6 hc.ok hl (s := g) hg
  generalize chosenS cs l = L at hLc hLn hcost hpl
  rw [hcost]
  have hB : ∀ c, c ∈ L.filter (fun c => !inS s c.1) ↔ c ∈ L ∧ inS s c.1 = false := fun c => by rw [List.mem_filter]; simp
  have hBn : (L.filter (fun c => !inS s c.1)).Nodup := hLn.sublist List.filter_sublist
  generalize L.filter (fun c => !inS s c.1) = B at hB hBn
  have hcB : ∀ c ∈ B, ChOk n c := fun c hm => hc.ok c (hLc c ((hB c).1 hm).1).2
  have hwb : ∀ j : Nat, j < n → ((wetS n B).testBit j = true ↔ Wet n B j) := fun j hj => by
    rw [← wetS_iff hc.n6 hcB hj]; simp [inS]
  have hsub : ∀ j : Nat, s.testBit j = true → (dryS n B).testBit j = true := fun j hj => by
    have hjn : j < n := by
      apply Classical.byContradiction
      intro h
      rw [Nat.testBit_lt_two_pow (Nat.lt_of_lt_of_le s1 (Nat.pow_le_pow_right (by decide) (by omega)))] at hj
      cases hj
    rw [dryS_bit hcB, Bool.and_eq_true]
    refine ⟨decide_eq_true hjn, ?_⟩
    cases hq : (wetS n B).testBit j with
    | false => rfl
    | true =>
      have hW := (hwb j hjn).1 hq
      have key : ∀ g : Int, Wet n B g → g ≠ j := by
        intro g hg
        cases hg with
        | mouth => omega
        | step c hm _ =>
          intro e
          have := ((hB c).1 hm).2
          rw [e] at this
          unfold inS at this
          rw [Int.toNat_natCast, hj] at this
          simp at this
      exact absurd rfl (key _ hW)
  have hDg : dryS n B ∈ groupsS n 0 := by
    refine mem_groups.2 ⟨fun h => ?_, ?_⟩
    · obtain ⟨j, hj⟩ := bit_of_ne s0
      have := hsub j hj
      rw [h] at this
      simp at this
    · have := Nat.two_pow_pos n
      unfold dryS allS
      omega
  obtain ⟨c0, hc0, hlv⟩ := hpl _ hDg
  have hk0 := hc.ok c0 (hLc c0 hc0).2
  obtain ⟨⟨a0, a1⟩, ⟨b0, b1⟩, _⟩ := hk0
  unfold leavesS at hlv
  rw [Bool.and_eq_true] at hlv
  obtain ⟨hf, ht⟩ := hlv
  have htw : Wet n B c0.2.1 := by
    by_cases e : c0.2.1 = n
    · rw [e]; exact Wet.mouth
    · obtain ⟨j, hj⟩ : ∃ j : Nat, c0.2.1 = j := ⟨c0.2.1.toNat, by omega⟩
      rw [hj] at ht ⊢
      have hjn : j < n := by omega
      refine (hwb j hjn).1 ?_
      unfold inS at ht
      rw [Int.toNat_natCast, dryS_bit hcB] at ht
      simpa [hjn] using ht
  have hfs : inS s c0.1 = true := by
    cases hq : inS s c0.1 with
    | true => rfl
    | false =>
      have hm : c0 ∈ B := (hB c0).2 ⟨hc0, hq⟩
      have hW : Wet n B c0.1 := Wet.step c0 hm htw
      obtain ⟨j, hj⟩ : ∃ j : Nat, c0.1 = j := ⟨c0.1.toNat, by omega⟩
      rw [hj] at hW hf
      have hjn : j < n := by omega
      have := (hwb j hjn).2 hW
      unfold inS at hf
      rw [Int.toNat_natCast, dryS_bit hcB, this] at hf
      simp at hf
  have hts : inS s c0.2.1 = false := by
    cases hq : inS s c0.2.1 with
    | false => rfl
    | true =>
      have h1 : s.testBit c0.2.1.toNat = true := by unfold inS at hq; rw [Bool.and_eq_true] at hq; exact hq.2
      have h2 := hsub _ h1
      unfold inS at ht
      rw [h2] at ht
      simp [b0] at ht
  -- the channels of the new plan
  have hZ : ∀ c, c ∈ cs.filter (fun c => c.2.2 == 0 && (inS s c.1 && inS s c.2.1)) ↔ c ∈ cs ∧ c.2.2 = 0 ∧ inS s c.1 = true ∧ inS s c.2.1 = true := fun c => by rw [List.mem_filter]; simp
  generalize cs.filter (fun c => c.2.2 == 0 && (inS s c.1 && inS s c.2.1)) = Z at hZ
  have hA : ∀ c ∈ c0 :: (B ++ Z), c ∈ cs := fun c hm => by
    rcases List.mem_cons.1 hm with rfl | hm
    · exact (hLc _ hc0).2
    · rcases List.mem_append.1 hm with hm | hm
      · exact (hLc c ((hB c).1 hm).1).2
      · exact ((hZ c).1 hm).1
  have hcA : ∀ c ∈ c0 :: (B ++ Z), ChOk n c := fun c hm => hc.ok c (hA c hm)
  have hwA : wetS n (c0 :: (B ++ Z)) = allS n := by
    apply Classical.byContradiction
    intro hne
    obtain ⟨g, hg, hno⟩ := (trap_iff hc.n6 hcA).2 hne
    obtain ⟨g0, g1⟩ := mem_groups.1 hg
    have hv : inS g c0.1 = false := trap_stuck g1 hno (Wet.step c0 (by simp) (htw.mono fun c hm => by simp [hm]))
    by_cases hz : g &&& s = 0
    · obtain ⟨c, hm, hcl⟩ := hpl g hg
      have h1 : inS g c.1 = true := by unfold leavesS at hcl; rw [Bool.and_eq_true] at hcl; exact hcl.1
      have h2 := inS_and g s c.1
      rw [hz, inS_zero, h1, Bool.true_and] at h2
      have := hno c (by simp [(hB c).2 ⟨hm, h2.symm⟩])
      rw [hcl] at this
      cases this
    · have htg : g &&& s ∈ groupsS n 0 := mem_groups.2 ⟨hz, Nat.lt_of_le_of_lt Nat.and_le_left g1⟩
      have htn : g &&& s ≠ s := fun e => by
        have := inS_and g s c0.1
        rw [e, hfs, hv] at this
        cases this
      have hsp2 := hmin _ htg htn (by rw [Nat.and_assoc, Nat.and_self])
      obtain ⟨c, hm, hcs⟩ := List.any_eq_true.1 hsp2
      unfold spentC leavesS at hcs
      simp only [Bool.and_eq_true, beq_iff_eq, Bool.not_eq_true'] at hcs
      obtain ⟨hc00, hcf, hct2⟩ := hcs
      rw [inS_and, Bool.and_eq_true] at hcf
      have hin : inS s c.2.1 = true := by
        cases hq : inS s c.2.1 with
        | true => rfl
        | false =>
          have : cs.any (spentC s) = true := List.any_eq_true.2 ⟨c, hm, by unfold spentC leavesS; rw [hc00, hcf.2, hq]; rfl⟩
          rw [hsp] at this
          cases this
      rw [inS_and, hin, Bool.and_true] at hct2
      have := hno c (by simp [(hZ c).2 ⟨hm, hc00, hcf.2, hin⟩])
      unfold leavesS at this
      rw [hcf.1, hct2] at this
      cases this
  obtain ⟨l', hl', hin⟩ := planA_in hc.n6 hc.ok hA hwA
  refine ⟨l', hl', ?_⟩
  have hpos : ∀ c ∈ cs, 0 ≤ price c := fun c hm => (hc.ok c hm).2.2.2.1
  have hpos2 : ∀ c ∈ cs, 0 ≤ price (tk s y c) := fun c hm => (hct.ok _ (List.mem_map.2 ⟨c, hm, rfl⟩)).2.2.2.1
  have q1 := sumC_le price (chosenS cs l') (c0 :: B) (ext_apart hc.ok l' 0 0 hl'.1).2 (fun c hm => hpos c (hA c (by rcases List.mem_cons.1 hm with rfl | hm; exact List.mem_cons_self; exact List.mem_cons_of_mem _ (List.mem_append_left _ hm)))) fun c hm => by
    rcases List.mem_cons.1 (hin c hm) with rfl | h
    · exact .inl (by simp)
    · rcases List.mem_append.1 h with h | h
      · exact .inl (by simp [h])
      · exact .inr ((hZ c).1 h).2.1
  have hn0 : (c0 :: B).Nodup := List.nodup_cons.2 ⟨fun hm => (by have h9 := ((hB c0).1 hm).2; rw [hfs] at h9; cases h9), hBn⟩
  have q2 := sumC_le (fun c => price (tk s y c)) (c0 :: B) L hn0 (fun c hm => hpos2 c (hLc c hm).2) fun c hm => by
    rcases List.mem_cons.1 hm with rfl | hm
    · exact .inl hc0
    · exact .inl ((hB c).1 hm).1
  rw [sumC_cons] at q1 q2
  have q3 : sumC (fun c => price (tk s y c)) B = sumC price B := sumC_congr B fun c hm => by
    show price (tk s y c) = price c
    unfold tk leavesS
    rw [((hB c).1 hm).2]
    rfl
  have q4 : price (tk s y c0) = price c0 - y := by
    unfold tk leavesS
    rw [hfs, hts]
    rfl
  rw [costS_eq]
  have q2' : price (tk s y c0) + sumC (fun c => price (tk s y c)) B ≤ sumC (fun c => price (tk s y c)) L := q2
  omega
theorem zero_plan {n : Nat} {cs : List Ch} (hc : Chs n cs) (hp : payerS n cs = none) : ∃ l, Plan n cs l ∧ costS cs l ≤ 0 := by
  have hz := payer_none hp
  have hA : ∀ c, c ∈ cs.filter (fun c => c.2.2 == 0) ↔ c ∈ cs ∧ c.2.2 = 0 := fun c => by rw [List.mem_filter]; simp
  generalize cs.filter (fun c => c.2.2 == 0) = A at hA
  have hcA : ∀ c ∈ A, ChOk n c := fun c hm => hc.ok c ((hA c).1 hm).1
  have hw : wetS n A = allS n := by
    apply Classical.byContradiction
    intro hne
    obtain ⟨g, hg, hno⟩ := (trap_iff hc.n6 hcA).2 hne
    obtain ⟨c, hm, h⟩ := List.any_eq_true.1 (hz g hg)
    unfold spentC at h
    rw [Bool.and_eq_true, beq_iff_eq] at h
    have := hno c ((hA c).2 ⟨hm, h.1⟩)
    rw [h.2] at this
    cases this
  obtain ⟨l, hl, hin⟩ := planA_in hc.n6 hc.ok (fun c hm => ((hA c).1 hm).1) hw
  refine ⟨l, hl, ?_⟩
  rw [costS_eq]
  have := sumC_le price (chosenS cs l) [] (ext_apart hc.ok l 0 0 hl.1).2 (fun c h => by cases h) fun c hm => .inr ((hA c).1 (hin c hm)).2
  simpa [sumC] using this
theorem dues_plan {n : Nat} : ∀ (f : Nat) {cs : List Ch}, Chs n cs → wetS n cs = allS n → cs.length + 1 ≤ f + zeros cs →
    (∃ l, Plan n cs l ∧ costS cs l ≤ sumP (duesF n f cs)) ∧ (∀ d ∈ duesF n f cs, setS d.1 ∈ groupsS n 0 ∧ 0 ≤ d.2) ∧ ∀ c ∈ cs, chargeOne (duesF n f cs) c ≤ c.2.2
  | 0, cs, _, _, h => by have := zeros_le cs; omega
  | f + 1, cs, hc, hw, h => by
    cases hp : payerS n cs with
    | none =>
      rw [duesF_done hp]
      obtain ⟨l, hl, hk⟩ := zero_plan hc hp
      refine ⟨⟨l, hl, by simpa [sumP] using hk⟩, by simp, fun c hm => ?_⟩
      have := (hc.ok c hm).2.2.2.1
      simpa [chargeOne] using this
    | some s =>
      obtain ⟨hsg, hsp, _⟩ := payer_some hp
      obtain ⟨s0, s1⟩ := mem_groups.1 hsg
      have hex := leaves_some hc hw hsg
      obtain ⟨⟨c1, hm1, hl1, hk1⟩, hle⟩ := least_of (cs := cs) (s := s) (fun c h => ⟨(hc.ok c h).2.2.2.1, (hc.ok c h).2.2.2.2⟩) hex
      have hk0 : 0 < leastLeft cs s := by
        have h0 := (hc.ok c1 hm1).2.2.2.1
        have : c1.2.2 ≠ 0 := by
          intro e
          rw [List.any_eq_false] at hsp
          have := hsp c1 hm1
          unfold spentC at this
          rw [hl1, e] at this
          simp at this
        omega
      have hz := least_pays hk0 hsp ⟨c1, hm1, hl1, hk1⟩
      have hlen : (takeLeft cs s (leastLeft cs s)).length = cs.length := by unfold takeLeft; simp
      have hct := take_ok hc hex
      have hwt : wetS n (takeLeft cs s (leastLeft cs s)) = allS n := by rw [wet_take]; exact hw
      obtain ⟨⟨l, hl, hk⟩, i2, i3⟩ := dues_plan f hct hwt (by omega)
      have hss : setS (listS s) = s := setS_listS (pow_64 hc.n6 s1)
      rw [duesF_step hp]
      refine ⟨?_, ?_, ?_⟩
      · obtain ⟨l', hl', hk'⟩ := step_plan hc hw hp (plan_take.1 hl)
        refine ⟨l', hl', ?_⟩
        rw [sumP_cons]
        show _ ≤ leastLeft cs s + _
        omega
      · intro d hd
        rcases List.mem_cons.1 hd with rfl | hd
        · exact ⟨by show setS (listS s) ∈ _; rw [hss]; exact hsg, by show 0 ≤ leastLeft cs s; omega⟩
        · exact i2 d hd
      · intro c hm
        rw [chargeOne_cons]
        show (if leavesS (setS (listS s)) c then leastLeft cs s else 0) + _ ≤ _
        rw [hss]
        have h1 := i3 (tk s (leastLeft cs s) c) (List.mem_map.2 ⟨c, hm, rfl⟩)
        rw [chargeOne_ends (tk_ends s (leastLeft cs s) c)] at h1
        unfold tk at h1
        split at h1
        · rename_i hq; rw [if_pos hq]; show _ ≤ c.2.2; have : chargeOne (duesF n f (takeLeft cs s (leastLeft cs s))) c ≤ c.2.2 - leastLeft cs s := h1; omega
        · rename_i hq; rw [if_neg hq]; omega
/-- P2.8 -/
theorem fulkerson {n : Nat} {cs : List Ch} (hc : Chs n cs) (hw : wetS n cs = allS n) :
    sumP (duesF n (cs.length + 1) cs) = leastS cs (plansS n cs) ∧ (∀ c ∈ cs, chargeOne (duesF n (cs.length + 1) cs) c ≤ c.2.2) ∧
      ∀ p ∈ plansS n cs, costS cs p = leastS cs (plansS n cs) → ∀ c ∈ chosenS cs p, chargeOne (duesF n (cs.length + 1) cs) c = c.2.2 := by
  obtain ⟨⟨l, hl, hk⟩, h2, h3⟩ := dues_plan (cs.length + 1) hc hw (by omega)
  generalize duesF n (cs.length + 1) cs = ds at hk h2 h3
  have hlp : l ∈ plansS n cs := (mem_plansS hc.n1 hc.ok l).2 hl
  have hne : plansS n cs ≠ [] := fun e => by rw [e] at hlp; cases hlp
  obtain ⟨p, hp, e1, e2⟩ := least_spec hc.ok hne
  have hlow : ∀ q ∈ plansS n cs, sumP ds ≤ sumC (chargeOne ds) (chosenS cs q) ∧ sumC (chargeOne ds) (chosenS cs q) ≤ costS cs q ∧ (sumC (chargeOne ds) (chosenS cs q) = costS cs q → ∀ c ∈ chosenS cs q, chargeOne ds c = c.2.2) := fun q hq => by
    have hq' := (mem_plansS hc.n1 hc.ok q).1 hq
    have h4 := sumC_mono (f := chargeOne ds) (g := price) (chosenS cs q) fun c hm => h3 c ((ext_apart hc.ok q 0 0 hq'.1).1 c hm).2
    rw [costS_eq]
    exact ⟨charge_plan hc.n6 hc.ok hq' ds h2, h4.1, h4.2⟩
  have h4 := hlow p hp
  have h5 := e2 l hlp
  refine ⟨by omega, h3, fun q hq hk => ?_⟩
  have h6 := hlow q hq
  exact h6.2.2 (by omega)
end Go.Proofs.YtlnpibboemphnaaGreat.drn
