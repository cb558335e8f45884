/- A region that draws its order, whose order is nearly forced (a chain of '&&' with calls in it): it may be walked in the order of the text. -/
import Derived.WalkKit
import Derived.Orders
import Derived.Deep.RegionHeld3
namespace Go.Proofs.Ytcalipoknbbaaaa
open Go Go.RowKit

def isMove (o : Oper) : Bool := match o.op with | .move _ => true | .assign _ => true | _ => false

/-- number k may come next: it is a copy that nobody else in the region heeds, or nothing else may come up -/
def stepOk (ops : Array Oper) (listed : Array Bool) (k : Nat) : Bool :=
  match ops[k]? with
  | none => false
  | some o => ((isMove o && Region.free .any ops listed k) && (Region.ready .any ops listed).contains k) || Region.ready .any ops listed == [k]

def setTo (listed : Array Bool) (k : Nat) : Nat → Array Bool
  | 0 => listed
  | m + 1 => setTo (listed.setIfInBounds k true) (k + 1) m

def fwd (ops : Array Oper) : Nat → Nat → Array Bool → Bool
  | 0, _, _ => true
  | m + 1, k, listed => stepOk ops listed k && fwd ops m (k + 1) (listed.setIfInBounds k true)

variable {P : Program} {ops : Array Oper} {Q : Exit → Act → World → Prop}

theorem wp_congrQ {o : Oper} {a : Act} {w : World} {K : Act → World → Prop} {Q1 Q2 : Exit → Act → World → Prop} (hp : ∀ c a w, Q1 (.panic c) a w → Q2 (.panic c) a w) (hl : LetsOut Q1 → LetsOut Q2)
    (hh : o.wp P a w K Q1) : o.wp P a w K Q2 := by
  unfold Oper.wp at *
  generalize (execOp a.eval o).run P w = r at *
  cases r with
  | ok n w' =>
    cases n <;> simp only [Oper.upon] at hh ⊢ <;>
      first
        | exact hh
        | exact Calls.mono hh (fun e w'' he => by cases e <;> first | exact hp _ _ _ he | exact hl he | exact he)
  | halt x w' => cases x <;> simp only [Oper.upon] at hh ⊢ <;> first | exact hp _ _ _ hh | exact hh

theorem move_asks {o : Oper} (h : isMove o = true) (a : Act) (w : World) : ¬ o.asks P a w := by
  unfold isMove at h
  intro ⟨hm, _⟩
  split at h <;> rename_i x ho
  · rw [show execOp a.eval o = .pure (.value (a.eval x)) from by simp only [execOp, ho]; rfl, Sem.runT] at hm
    simp at hm
  · rw [show execOp a.eval o = .pure (.value (a.eval x)) from by simp only [execOp, ho]; rfl, Sem.runT] at hm
    simp at hm
  · simp at h

theorem move_run {o : Oper} (h : isMove o = true) (a : Act) : ∃ v, execOp a.eval o = .pure (.value v) := by
  unfold isMove at h
  split at h <;> rename_i x ho
  · exact ⟨a.eval x, by simp only [execOp, ho]; rfl⟩
  · exact ⟨a.eval x, by simp only [execOp, ho]; rfl⟩
  · simp at h


/-- the walk in the order of the text, as far as it is forced -/
theorem wpAny_fwd (hs : Region.noSelect ops = true) {fuel : Nat} : ∀ (l : List Oper) (k : Nat) (listed : Array Bool) (a : Act) (w : World), (∀ j, j < l.length → l[j]? = ops[k + j]?) → fwd ops l.length k listed = true →
    wpList P ops (Exit.then (fun a w => wpAny P .any ops (NoPanic Q) fuel (setTo listed k l.length) a w) (NoPanic Q)) l a w → wpAny P .any ops (NoPanic Q) (l.length + fuel) listed a w
  | [], k, listed, a, w, _, _, h => by
    rw [List.length_nil, Nat.zero_add]
    exact h
  | o :: l, k, listed, a, w, hl, hc, h => by
    have ho : ops[k]? = some o := by have := hl 0 (by simp); simpa using this.symm
    simp only [List.length_cons, fwd, Bool.and_eq_true] at hc
    obtain ⟨hk, hc⟩ := hc
    have ih := wpAny_fwd hs (fuel := fuel) l (k + 1) (listed.setIfInBounds k true)
    have hl' : ∀ j, j < l.length → l[j]? = ops[k + 1 + j]? := fun j hj => by
      have := hl (j + 1) (by simpa using hj)
      rw [show k + 1 + j = k + (j + 1) from by omega, ← this]
      simp
    have ih' := fun a w h => ih a w hl' hc h
    rw [show (o :: l).length + fuel = (l.length + fuel) + 1 from by simp; omega]
    simp only [stepOk, ho, Bool.or_eq_true, Bool.and_eq_true, beq_iff_eq] at hk
    unfold wpList at h
    have hset : setTo listed k (o :: l).length = setTo (listed.setIfInBounds k true) (k + 1) l.length := rfl
    rw [hset] at h
    rcases hk with ⟨⟨hm, hf⟩, hr⟩ | hr
    · obtain ⟨v, hv⟩ := move_run hm a
      by_cases hw : Region.wanted o (yielded ops a.tmps) = true
      · refine wpAny_take (v := v) ho hs hf hr (fun _ _ _ h => (h : False).elim) (.inl ⟨hw, fun w => by rw [hv]; rfl⟩) ?_
        rw [if_pos hw] at h
        rcases h with h | ⟨h, _⟩
        · unfold Oper.wp at h
          rw [hv] at h
          exact ih' _ _ h
        · exact absurd h (move_asks hm a w)
      · rw [if_neg hw] at h
        exact wpAny_take (v := undef) ho hs hf hr (fun _ _ _ h => (h : False).elim) (.inr ⟨by simpa using hw, rfl⟩) (ih' _ _ h)
    · refine wpAny_all hr (by simp) fun i hi => ?_
      obtain rfl : i = k := by simpa using hi
      unfold wpOp
      simp only [ho]
      split at h
      · rename_i hw
        rw [if_pos hw]
        rcases h with h | ⟨h, h2⟩
        · exact .inl (wp_congrQ (fun _ _ _ h => h) (fun h => h) (Oper.wp_mono ih' h))
        · exact .inr ⟨h, h2⟩
      · rename_i hw
        rw [if_neg hw]
        exact ih' _ _ h

/-- one operation that may come up -/
theorem wpAny_one {fuel : Nat} {listed : Array Bool} {a : Act} {w : World} {i : Nat} {o : Oper} (ho : ops[i]? = some o)
    (h : wpList P ops (Exit.then (fun a w => wpAny P .any ops (NoPanic Q) fuel (listed.setIfInBounds i true) a w) (NoPanic Q)) [o] a w) :
    wpOp P ops (NoPanic Q) i (wpAny P .any ops (NoPanic Q) fuel (listed.setIfInBounds i true)) a w := by
  unfold wpOp
  simp only [ho]
  unfold wpList at h
  split at h
  · rename_i hw
    rw [if_pos hw]
    rcases h with h | ⟨h, h2⟩
    · exact .inl (wp_congrQ (fun _ _ _ h => h) (fun h => h) (Oper.wp_mono (fun a w h => h) h))
    · exact .inr ⟨h, h2⟩
  · rename_i hw
    rw [if_neg hw]
    exact h

/-- two operations of which either may come up first -/
theorem wpAny_two {fuel : Nat} {listed : Array Bool} {a : Act} {w : World} {i j : Nat} {oi oj : Oper} (hr : Region.ready .any ops listed = [i, j]) (hi : ops[i]? = some oi) (hj : ops[j]? = some oj)
    (h1 : wpList P ops (Exit.then (fun a w => wpAny P .any ops (NoPanic Q) fuel (listed.setIfInBounds i true) a w) (NoPanic Q)) [oi] a w)
    (h2 : wpList P ops (Exit.then (fun a w => wpAny P .any ops (NoPanic Q) fuel (listed.setIfInBounds j true) a w) (NoPanic Q)) [oj] a w) :
    wpAny P .any ops (NoPanic Q) (fuel + 1) listed a w := by
  refine wpAny_all hr (by simp) fun k hk => ?_
  simp only [List.mem_cons, List.not_mem_nil, or_false] at hk
  rcases hk with rfl | rfl
  · exact wpAny_one hi h1
  · exact wpAny_one hj h2

theorem wpAny_end {listed : Array Bool} {a : Act} {w : World} (hr : Region.ready .any ops listed = []) (h : Q .normal a w) {fuel : Nat} : wpAny P .any ops (NoPanic Q) fuel listed a w := wpAny_done (Q := NoPanic Q) hr (NoPanic.normal h) fuel

/-- the region -/
theorem wp_region_fwd {id : Nat} {a : Act} {w : World} (l : List Oper) (fuel : Nat) (hm : P.follows .mixedOrders = true) (hs : Region.noSelect ops = true) (hsz : ops.size = l.length + fuel) (hl : ∀ j, j < l.length → l[j]? = ops[0 + j]?)
    (hc : fwd ops l.length 0 (Array.replicate ops.size false) = true)
    (h : wpList P ops (Exit.then (fun a w => wpAny P .any ops (NoPanic Q) fuel (setTo (Array.replicate ops.size false) 0 l.length) a w) (NoPanic Q)) l a w.drew) : (Code.region id ops true).wp P Q a w := by
  refine wp_region_noPanic (wp_region_any hm ?_)
  rw [hsz]
  rw [hsz] at hc h
  exact wpAny_fwd hs l 0 _ a _ hl hc h
/-- a piece of a region -/
def seg (ops : Array Oper) (i n : Nat) : List Oper := (ops.toList.drop i).take n
theorem seg_get (ops : Array Oper) (i n : Nat) (_ : i + n ≤ ops.size) : ∀ j, j < (seg ops i n).length → (seg ops i n)[j]? = ops[i + j]? := by
  intro j hj
  have hj' : j < n := by
    simp only [seg, List.length_take] at hj
    omega
  simp [seg, hj']
theorem wp_region_seg {id : Nat} {a : Act} {w : World} (n fuel : Nat) (hm : P.follows .mixedOrders = true) (hs : Region.noSelect ops = true) (hsz : ops.size = n + fuel) (hc : fwd ops n 0 (Array.replicate ops.size false) = true)
    (h : wpList P ops (Exit.then (fun a w => wpAny P .any ops (NoPanic Q) fuel (setTo (Array.replicate ops.size false) 0 n) a w) (NoPanic Q)) (seg ops 0 n) a w.drew) : (Code.region id ops true).wp P Q a w := by
  have hn : (seg ops 0 n).length = n := by simp [seg]; omega
  refine wp_region_fwd (seg ops 0 n) fuel hm hs (by rw [hn]; exact hsz) (seg_get ops 0 n (by omega)) (by rw [hn]; exact hc) ?_
  rw [hn]
  exact h
theorem wpAny_seg {listed : Array Bool} {a : Act} {w : World} (k n fuel : Nat) (hs : Region.noSelect ops = true) (hsz : k + n ≤ ops.size) (hc : fwd ops n k listed = true)
    (h : wpList P ops (Exit.then (fun a w => wpAny P .any ops (NoPanic Q) fuel (setTo listed k n) a w) (NoPanic Q)) (seg ops k n) a w) : wpAny P .any ops (NoPanic Q) (n + fuel) listed a w := by
  have hn : (seg ops k n).length = n := by simp [seg]; omega
  have h2 := wpAny_fwd (P := P) hs (fuel := fuel) (Q := Q) (seg ops k n) k listed a w (seg_get ops k n hsz) (by rw [hn]; exact hc)
  rw [hn] at h2
  exact h2 h
/-! slimmer terms for the walk: no 'after', no place in the text; of the region's array the slots alone -/
def slim (o : Oper) : Oper := { o with after := #[], pos := "" }
def shade (o : Oper) : Oper := { dst := o.dst, op := .move (.const (.bool false)), type := 0, pos := "", after := #[], guard := none }
theorem slim_exec (o : Oper) (r : Operand → Value) : execOp r (slim o) = execOp r o := by
  cases o with
  | mk dst op type pos after guard => cases op <;> rfl
theorem shade_yielded (ops : Array Oper) (t : Array Value) : yielded (ops.map shade) t = yielded ops t := by
  funext j
  unfold yielded
  have : ((ops.map shade)[j]?).bind (·.dst) = (ops[j]?).bind (·.dst) := by
    rw [Array.getElem?_map]
    cases ops[j]? <;> rfl
  rw [this]
theorem slim_upon (o : Oper) (a : Act) (K : Act → World → Prop) (r : Result Next) : (slim o).upon P a K Q r = o.upon P a K Q r := by
  cases r with
  | ok n w => cases n <;> rfl
  | halt x w => cases x <;> rfl
theorem wpList_slim : ∀ (l : List Oper) (a : Act) (w : World), wpList P (ops.map shade) Q (l.map slim) a w → wpList P ops Q l a w
  | [], _, _, h => h
  | o :: l, a, w, h => by
    have ih := fun a w => wpList_slim l a w
    rw [List.map_cons] at h
    unfold wpList at h ⊢
    have hw : Region.wanted (slim o) (yielded (ops.map shade) a.tmps) = Region.wanted o (yielded ops a.tmps) := by rw [shade_yielded]; rfl
    rw [hw] at h
    split at h
    · rename_i hh
      rw [if_pos hh]
      rcases h with h | ⟨h, h2⟩
      · refine .inl (Oper.wp_mono ih ?_)
        unfold Oper.wp at h ⊢
        rw [slim_exec, slim_upon] at h
        exact h
      · refine .inr ⟨?_, h2⟩
        unfold Oper.asks at h ⊢
        rw [slim_exec] at h
        exact h
    · rename_i hh
      rw [if_neg hh]
      exact ih _ _ h
theorem wp_region_segS {id : Nat} {a : Act} {w : World} (n fuel : Nat) (hm : P.follows .mixedOrders = true) (hs : Region.noSelect ops = true) (hsz : ops.size = n + fuel) (hc : fwd ops n 0 (Array.replicate ops.size false) = true)
    (h : ∀ K : Act → World → Prop, (∀ a w, wpAny P .any ops (NoPanic Q) fuel (setTo (Array.replicate ops.size false) 0 n) a w → K a w) → wpList P (ops.map shade) (Exit.then K (NoPanic Q)) ((seg ops 0 n).map slim) a w.drew) : (Code.region id ops true).wp P Q a w :=
  wp_region_seg n fuel hm hs hsz hc (wpList_slim _ _ _ (h _ fun _ _ h => h))
theorem wpAny_segS {listed : Array Bool} {a : Act} {w : World} (k n fuel : Nat) (hs : Region.noSelect ops = true) (hsz : k + n ≤ ops.size) (hc : fwd ops n k listed = true)
    (h : ∀ K : Act → World → Prop, (∀ a w, wpAny P .any ops (NoPanic Q) fuel (setTo listed k n) a w → K a w) → wpList P (ops.map shade) (Exit.then K (NoPanic Q)) ((seg ops k n).map slim) a w) : wpAny P .any ops (NoPanic Q) (n + fuel) listed a w :=
  wpAny_seg k n fuel hs hsz hc (wpList_slim _ _ _ (h _ fun _ _ h => h))
theorem wpAny_twoS {fuel : Nat} {listed : Array Bool} {a : Act} {w : World} (i j : Nat) (oi oj : Oper) (hr : Region.ready .any ops listed = [i, j]) (hi : ops[i]? = some oi) (hj : ops[j]? = some oj)
    (h1 : ∀ K : Act → World → Prop, (∀ a w, wpAny P .any ops (NoPanic Q) fuel (listed.setIfInBounds i true) a w → K a w) → wpList P (ops.map shade) (Exit.then K (NoPanic Q)) [slim oi] a w)
    (h2 : ∀ K : Act → World → Prop, (∀ a w, wpAny P .any ops (NoPanic Q) fuel (listed.setIfInBounds j true) a w → K a w) → wpList P (ops.map shade) (Exit.then K (NoPanic Q)) [slim oj] a w) :
    wpAny P .any ops (NoPanic Q) (fuel + 1) listed a w :=
  wpAny_two hr hi hj (wpList_slim [oi] _ _ (h1 _ fun _ _ h => h)) (wpList_slim [oj] _ _ (h2 _ fun _ _ h => h))

/-! a quick look whether the order of the text is forced -/
/-- one more than the last operation that this one waits for -/
def lastOf (o : Oper) : Nat := o.after.toList.foldl (fun m e => if Region.binds .any e then max m (e.on + 1) else m) 0
def freeFast (ops : Array Oper) (k : Nat) : Bool :=
  match ops.toList[k]? with
  | none => false
  | some o => (ops.toList.drop (k + 1)).all fun oj => oj.after.toList.any (fun e => Region.binds .any e && e.on == k) || o.apart ops oj
def fast (ops : Array Oper) (ms : List Nat) : Nat → Nat → Bool
  | 0, _ => true
  | m + 1, k => (match ops.toList[k]? with
      | none => false
      | some o => Nat.ble (lastOf o) k && ((ms.drop (k + 1)).all (fun x => Nat.ble (k + 1) x) || (isMove o && freeFast ops k))) && fast ops ms m (k + 1)
/-- the first k have come up -/
def upTo (ops : Array Oper) (listed : Array Bool) (k : Nat) : Prop := listed.size = ops.size ∧ ∀ i, i < ops.size → listed.getD i true = decide (i < k)

theorem foldl_max_le (l : List Edge) (b : Nat) : b ≤ l.foldl (fun m e => if Region.binds .any e then max m (e.on + 1) else m) b := by
  induction l generalizing b with
  | nil => exact Nat.le_refl _
  | cons e l ih =>
    simp only [List.foldl_cons]
    refine Nat.le_trans ?_ (ih _)
    split
    · exact Nat.le_max_left _ _
    · exact Nat.le_refl _
theorem foldl_max_mem (l : List Edge) (b : Nat) (e : Edge) (he : e ∈ l) (hb : Region.binds .any e = true) : e.on + 1 ≤ l.foldl (fun m e => if Region.binds .any e then max m (e.on + 1) else m) b := by
  induction l generalizing b with
  | nil => simp at he
  | cons x l ih =>
    simp only [List.foldl_cons]
    rcases List.mem_cons.1 he with rfl | he
    · rw [if_pos hb]
      exact Nat.le_trans (Nat.le_max_right _ _) (foldl_max_le l _)
    · exact ih _ he
theorem foldl_max_ex (l : List Edge) (b k : Nat) (h : k < l.foldl (fun m e => if Region.binds .any e then max m (e.on + 1) else m) b) (hb : b ≤ k) : ∃ e ∈ l, Region.binds .any e = true ∧ k ≤ e.on := by
  induction l generalizing b with
  | nil => simp at h; omega
  | cons x l ih =>
    simp only [List.foldl_cons] at h
    by_cases hx : Region.binds .any x = true
    · rw [if_pos hx] at h
      by_cases hk : k ≤ x.on
      · exact ⟨x, by simp, hx, hk⟩
      · obtain ⟨e, he, h1, h2⟩ := ih (max b (x.on + 1)) h (by omega)
        exact ⟨e, by simp [he], h1, h2⟩
    · rw [if_neg hx] at h
      obtain ⟨e, he, h1, h2⟩ := ih b h hb
      exact ⟨e, by simp [he], h1, h2⟩
theorem listed_on {listed : Array Bool} {k : Nat} (h : upTo ops listed k) (hk : k ≤ ops.size) (i : Nat) : listed.getD i false = true ↔ i < k := by
  by_cases hi : i < ops.size
  · have h1 := h.2 i hi
    have hsz : i < listed.size := by rw [h.1]; exact hi
    have e : listed.getD i false = listed.getD i true := by simp [Array.getD, hsz]
    rw [e, h1]
    simp
  · have hsz : ¬ i < listed.size := by rw [h.1]; exact hi
    simp [Array.getD, hsz]
    omega
theorem upTo_set {listed : Array Bool} {k : Nat} (h : upTo ops listed k) : upTo ops (listed.setIfInBounds k true) (k + 1) := by
  refine ⟨by simp [h.1], fun i hi => ?_⟩
  have h1 := h.2 i hi
  have hsz : i < listed.size := by rw [h.1]; exact hi
  by_cases hik : i = k
  · subst hik
    simp [Array.getD, hsz]
  · rw [getD_set_ne true (Ne.symm hik), h1]
    simp; omega
theorem single {l : List Nat} {k : Nat} (hn : l.Nodup) (h1 : ∀ x ∈ l, x = k) (h2 : k ∈ l) : l = [k] := by
  match l, hn with
  | [], _ => simp at h2
  | [x], _ => rw [h1 x (by simp)]
  | x :: y :: l, hn =>
    have e1 := h1 x (by simp)
    have e2 := h1 y (by simp)
    simp only [List.nodup_cons, List.mem_cons, not_or] at hn
    exact absurd (e1.trans e2.symm) hn.1.1
theorem ready_nodup (md : Region.Mode) (ops : Array Oper) (listed : Array Bool) : (Region.ready md ops listed).Nodup := by
  unfold Region.ready
  exact List.Nodup.sublist List.filter_sublist List.nodup_range
theorem fwd_of_fast : ∀ (m k : Nat) (listed : Array Bool), upTo ops listed k → fast ops (ops.toList.map lastOf) m k = true → fwd ops m k listed = true
  | 0, _, _, _, _ => rfl
  | m + 1, k, listed, hu, h => by
    simp only [fast, Bool.and_eq_true] at h
    obtain ⟨h, hrest⟩ := h
    simp only [fwd, Bool.and_eq_true]
    refine ⟨?_, fwd_of_fast m (k + 1) _ (upTo_set hu) hrest⟩
    cases ho : ops.toList[k]? with
    | none => rw [ho] at h; simp at h
    | some o =>
      rw [ho] at h
      simp only [Bool.and_eq_true, Bool.or_eq_true, Nat.ble_eq] at h
      obtain ⟨hlast, h⟩ := h
      have ho' : ops[k]? = some o := by rw [← Array.getElem?_toList]; exact ho
      have hk : k < ops.size := (Array.getElem?_eq_some_iff.1 ho').1
      have hon := listed_on hu (Nat.le_of_lt hk)
      have hkr : k ∈ Region.ready .any ops listed := by
        rw [mem_ready]
        refine ⟨by rw [hu.2 k hk]; simp, o, ho', fun e he hb => ?_⟩
        rw [hon]
        have := foldl_max_mem o.after.toList 0 e (by simpa using he) hb
        unfold lastOf at hlast
        omega
      simp only [stepOk, ho', Bool.or_eq_true, Bool.and_eq_true, beq_iff_eq]
      rcases h with h | ⟨h1, h2⟩
      · refine .inr (single (ready_nodup _ _ _) (fun j hj => ?_) hkr)
        rw [mem_ready] at hj
        obtain ⟨hj0, oj, hoj, hall⟩ := hj
        have hjs : j < ops.size := (Array.getElem?_eq_some_iff.1 hoj).1
        rw [hu.2 j hjs] at hj0
        have hjk : k ≤ j := by simpa using hj0
        by_cases he : j = k
        · exact he
        · exfalso
          have hm : lastOf oj ∈ (ops.toList.map lastOf).drop (k + 1) := by
            rw [List.mem_iff_getElem?]
            refine ⟨j - (k + 1), ?_⟩
            rw [List.getElem?_drop, show k + 1 + (j - (k + 1)) = j from by omega, List.getElem?_map, Array.getElem?_toList, hoj]
            rfl
          have hlt := List.all_eq_true.1 h _ hm
          rw [Nat.ble_eq] at hlt
          obtain ⟨e, he1, he2, he3⟩ := foldl_max_ex oj.after.toList 0 k (by unfold lastOf at hlt; omega) (by omega)
          have := (hon e.on).1 (hall e (by simpa using he1) he2)
          omega
      · refine .inl ⟨⟨h1, ?_⟩, by simpa using hkr⟩
        simp only [freeFast, ho] at h2
        simp only [Region.free, ho', List.all_eq_true, List.mem_range, Bool.or_eq_true]
        intro j hj
        by_cases hjk : j = k
        · exact .inl (.inl (by simp [hjk]))
        · by_cases hlt : j < k
          · exact .inl (.inr (by rw [hu.2 j hj]; simp [hlt]))
          · refine .inr ?_
            have hoj : ops[j]? = some ops[j] := by simp [hj]
            rw [hoj]
            have hm : ops[j] ∈ ops.toList.drop (k + 1) := by
              rw [List.mem_iff_getElem?]
              refine ⟨j - (k + 1), ?_⟩
              rw [List.getElem?_drop, show k + 1 + (j - (k + 1)) = j from by omega, Array.getElem?_toList, hoj]
            have h3 := List.all_eq_true.1 h2 _ hm
            simp only [Bool.or_eq_true] at h3 ⊢
            rcases h3 with h3 | h3
            · left
              simpa using h3
            · exact .inr h3
theorem upTo_start (ops : Array Oper) : upTo ops (Array.replicate ops.size false) 0 := ⟨by simp, fun i hi => by simp [Array.getD, hi]⟩
theorem upTo_setTo {listed : Array Bool} {k : Nat} : ∀ (m : Nat), upTo ops listed k → upTo ops (setTo listed k m) (k + m)
  | 0, h => h
  | m + 1, h => by
    have := upTo_setTo m (upTo_set h)
    rw [show k + 1 + m = k + (m + 1) from by omega] at this
    exact this

/-- it waits for an operation from k on, other than x -/
def waits (o : Oper) (k x : Nat) : Bool := o.after.toList.any fun e => Region.binds .any e && (Nat.ble k e.on && !(Nat.beq e.on x))
def pairFast (ops : Array Oper) (k : Nat) : Bool :=
  match ops.toList[k]?, ops.toList[k + 1]? with
  | some o, some p => Nat.ble (lastOf o) k && Nat.ble (lastOf p) k && (ops.toList.drop (k + 2)).all fun q => waits q k k && waits q k (k + 1)
  | _, _ => false

theorem waits_spec {o : Oper} {k x : Nat} (h : waits o k x = true) : ∃ e ∈ o.after, Region.binds .any e = true ∧ k ≤ e.on ∧ e.on ≠ x := by
  unfold waits at h
  obtain ⟨e, he, hb⟩ := List.any_eq_true.1 h
  simp only [Bool.and_eq_true, Nat.ble_eq, Bool.not_eq_true'] at hb
  exact ⟨e, by simpa using he, hb.1, hb.2.1, Nat.ne_of_beq_eq_false hb.2.2⟩
theorem may_ready {listed : Array Bool} {k : Nat} (hu : upTo ops listed k) (i : Nat) {o : Oper} (ho : ops[i]? = some o) (hki : k ≤ i) (hl : lastOf o ≤ k) : i ∈ Region.ready .any ops listed := by
  have hi : i < ops.size := (Array.getElem?_eq_some_iff.1 ho).1
  rw [mem_ready]
  refine ⟨by rw [hu.2 i hi]; simp; omega, o, ho, fun e he hb => ?_⟩
  rw [listed_on hu (by omega)]
  have := foldl_max_mem o.after.toList 0 e (by simpa using he) hb
  unfold lastOf at hl
  omega

/-- two operations in either order -/
theorem wpAny_pair {fuel : Nat} {listed : Array Bool} {a : Act} {w : World} (k : Nat) (o p : Oper) (ho : ops[k]? = some o) (hp : ops[k + 1]? = some p) (hu : upTo ops listed k) (hf : pairFast ops k = true)
    (h1 : wpList P ops (Exit.then (fun a w => wpAny P .any ops (NoPanic Q) fuel ((listed.setIfInBounds k true).setIfInBounds (k + 1) true) a w) (NoPanic Q)) [o, p] a w)
    (h2 : wpList P ops (Exit.then (fun a w => wpAny P .any ops (NoPanic Q) fuel ((listed.setIfInBounds k true).setIfInBounds (k + 1) true) a w) (NoPanic Q)) [p, o] a w) :
    wpAny P .any ops (NoPanic Q) (fuel + 2) listed a w := by
  have hk1 : k + 1 < ops.size := (Array.getElem?_eq_some_iff.1 hp).1
  have hsz := hu.1
  have ho2 : ops.toList[k]? = some o := by rw [Array.getElem?_toList]; exact ho
  have hp2 : ops.toList[k + 1]? = some p := by rw [Array.getElem?_toList]; exact hp
  simp only [pairFast, ho2, hp2, Bool.and_eq_true, Nat.ble_eq] at hf
  obtain ⟨⟨hlo, hlp⟩, hall⟩ := hf
  have hrest : ∀ j q, ops[j]? = some q → k + 2 ≤ j → waits q k k = true ∧ waits q k (k + 1) = true := fun j q hq hj => by
    have hm : q ∈ ops.toList.drop (k + 2) := by
      rw [List.mem_iff_getElem?]
      refine ⟨j - (k + 2), ?_⟩
      rw [List.getElem?_drop, show k + 2 + (j - (k + 2)) = j from by omega, Array.getElem?_toList, hq]
    have := List.all_eq_true.1 hall _ hm
    simpa only [Bool.and_eq_true] using this
  have hk : k ∈ Region.ready .any ops listed := may_ready hu k ho (Nat.le_refl _) hlo
  have hon := listed_on hu (by omega)
  have hsub : ∀ j ∈ Region.ready .any ops listed, j = k ∨ j = k + 1 := fun j hj => by
    rw [mem_ready] at hj
    obtain ⟨hj0, q, hq, hq2⟩ := hj
    have hjs : j < ops.size := (Array.getElem?_eq_some_iff.1 hq).1
    rw [hu.2 j hjs] at hj0
    have hjk : k ≤ j := by simpa using hj0
    by_cases h : k + 2 ≤ j
    · obtain ⟨e, he, hb, hke, _⟩ := waits_spec (hrest j q hq h).1
      have := (hon e.on).1 (hq2 e he hb)
      omega
    · omega
  -- behind the one, the other alone
  have next1 : ∀ x y : Nat, (x = k ∧ y = k + 1) ∨ (x = k + 1 ∧ y = k) → ∀ j ∈ Region.ready .any ops (listed.setIfInBounds x true), j = y := fun x y hxy j hj => by
    rw [mem_ready] at hj
    obtain ⟨hj0, q, hq, hq2⟩ := hj
    have hjs : j < ops.size := (Array.getElem?_eq_some_iff.1 hq).1
    have hxs : x < listed.size := by omega
    have hjx : j ≠ x := by
      rintro rfl
      simp [Array.getD, hxs] at hj0
    rw [getD_set_ne true (Ne.symm hjx), hu.2 j hjs] at hj0
    have hjk : k ≤ j := by simpa using hj0
    by_cases h : k + 2 ≤ j
    · exfalso
      have hw : waits q k x = true := by
        rcases hxy with ⟨rfl, _⟩ | ⟨rfl, _⟩
        · exact (hrest j q hq h).1
        · exact (hrest j q hq h).2
      obtain ⟨e, he, hb, hke, hne⟩ := waits_spec hw
      have h3 := hq2 e he hb
      rw [getD_set_ne false (Ne.symm hne)] at h3
      have := (hon e.on).1 h3
      omega
    · omega
  have next2 : ∀ x y : Nat, (x = k ∧ y = k + 1) ∨ (x = k + 1 ∧ y = k) → y ∈ Region.ready .any ops (listed.setIfInBounds x true) := fun x y hxy => by
    refine ready_mono (may_ready hu y (o := if y = k then o else p) ?_ (by omega) ?_) (by omega)
    · rcases hxy with ⟨_, rfl⟩ | ⟨_, rfl⟩
      · rw [if_neg (by omega)]; exact hp
      · rw [if_pos rfl]; exact ho
    · rcases hxy with ⟨_, rfl⟩ | ⟨_, rfl⟩
      · rw [if_neg (by omega)]; exact hlp
      · rw [if_pos rfl]; exact hlo
  have step : ∀ (x y : Nat) (ox oy : Oper), ops[x]? = some ox → ops[y]? = some oy → (x = k ∧ y = k + 1) ∨ (x = k + 1 ∧ y = k) →
      wpList P ops (Exit.then (fun a w => wpAny P .any ops (NoPanic Q) fuel ((listed.setIfInBounds x true).setIfInBounds y true) a w) (NoPanic Q)) [ox, oy] a w →
      wpOp P ops (NoPanic Q) x (wpAny P .any ops (NoPanic Q) (fuel + 1) (listed.setIfInBounds x true)) a w := fun x y ox oy hox hoy hxy h => by
    have hr : Region.ready .any ops (listed.setIfInBounds x true) = [y] := single (ready_nodup _ _ _) (next1 x y hxy) (next2 x y hxy)
    have inner : ∀ a w, wpList P ops (Exit.then (fun a w => wpAny P .any ops (NoPanic Q) fuel ((listed.setIfInBounds x true).setIfInBounds y true) a w) (NoPanic Q)) [oy] a w →
        wpAny P .any ops (NoPanic Q) (fuel + 1) (listed.setIfInBounds x true) a w := fun a w h =>
      wpAny_all hr (by simp) fun i hi => by
        obtain rfl : i = y := by simpa using hi
        exact wpAny_one hoy h
    unfold wpList at h
    unfold wpOp
    simp only [hox]
    split at h
    · rename_i hw
      rw [if_pos hw]
      rcases h with h | ⟨h, h2⟩
      · exact .inl (wp_congrQ (fun _ _ _ h => h) (fun h => h) (Oper.wp_mono inner h))
      · exact .inr ⟨h, h2⟩
    · rename_i hw
      rw [if_neg hw]
      exact inner _ _ h
  refine ⟨fun h0 => absurd hk (by rw [h0]; simp), fun i hi => ?_⟩
  rcases hsub i hi with rfl | rfl
  · exact step i (i + 1) o p ho hp (.inl ⟨rfl, rfl⟩) h1
  · refine step (k + 1) k p o hp ho (.inr ⟨rfl, rfl⟩) ?_
    rw [Array.setIfInBounds_comm _ _ (show k + 1 ≠ k by omega)]
    exact h2

theorem upTo_unique {l1 l2 : Array Bool} {k : Nat} (h1 : upTo ops l1 k) (h2 : upTo ops l2 k) : l1 = l2 := by
  refine Array.ext (h1.1.trans h2.1.symm) fun i hi1 hi2 => ?_
  have e1 := h1.2 i (by rw [← h1.1]; exact hi1)
  have e2 := h2.2 i (by rw [← h1.1]; exact hi1)
  have := e1.trans e2.symm
  simpa [Array.getD, hi1, hi2] using this

/-! the forms for the walk -/
theorem region_F {id : Nat} {a : Act} {w : World} (n fuel : Nat) (hm : P.follows .mixedOrders = true) (hs : Region.noSelect ops = true) (hsz : ops.size = n + fuel) (hc : fast ops (ops.toList.map lastOf) n 0 = true)
    (h : ∀ (K : Act → World → Prop) (listed : Array Bool), upTo ops listed n → (∀ a w, wpAny P .any ops (NoPanic Q) fuel listed a w → K a w) → wpList P (ops.map shade) (Exit.then K (NoPanic Q)) ((seg ops 0 n).map slim) a w.drew) : (Code.region id ops true).wp P Q a w :=
  wp_region_seg n fuel hm hs hsz (fwd_of_fast n 0 _ (upTo_start ops) hc) (wpList_slim _ _ _ (h _ _ (by have := upTo_setTo n (upTo_start ops); rwa [Nat.zero_add] at this) fun _ _ h => h))
theorem seg_F {listed : Array Bool} {a : Act} {w : World} (k n fuel : Nat) (hu : upTo ops listed k) (hs : Region.noSelect ops = true) (hsz : k + n ≤ ops.size) (hc : fast ops (ops.toList.map lastOf) n k = true)
    (h : ∀ (K : Act → World → Prop) (listed' : Array Bool), upTo ops listed' (k + n) → (∀ a w, wpAny P .any ops (NoPanic Q) fuel listed' a w → K a w) → wpList P (ops.map shade) (Exit.then K (NoPanic Q)) ((seg ops k n).map slim) a w) : wpAny P .any ops (NoPanic Q) (n + fuel) listed a w :=
  wpAny_seg k n fuel hs hsz (fwd_of_fast n k _ hu hc) (wpList_slim _ _ _ (h _ _ (upTo_setTo n hu) fun _ _ h => h))
theorem pair_F {listed : Array Bool} {a : Act} {w : World} (k fuel : Nat) (o p : Oper) (hu : upTo ops listed k) (ho : ops[k]? = some o) (hp : ops[k + 1]? = some p) (hf : pairFast ops k = true)
    (h1 : ∀ (K : Act → World → Prop) (listed' : Array Bool), upTo ops listed' (k + 2) → (∀ a w, wpAny P .any ops (NoPanic Q) fuel listed' a w → K a w) → wpList P (ops.map shade) (Exit.then K (NoPanic Q)) [slim o, slim p] a w)
    (h2 : ∀ (K : Act → World → Prop) (listed' : Array Bool), upTo ops listed' (k + 2) → (∀ a w, wpAny P .any ops (NoPanic Q) fuel listed' a w → K a w) → wpList P (ops.map shade) (Exit.then K (NoPanic Q)) [slim p, slim o] a w) :
    wpAny P .any ops (NoPanic Q) (fuel + 2) listed a w :=
  wpAny_pair k o p ho hp hu hf (wpList_slim [o, p] _ _ (h1 _ _ (upTo_set (upTo_set hu)) fun _ _ h => h)) (wpList_slim [p, o] _ _ (h2 _ _ (upTo_set (upTo_set hu)) fun _ _ h => h))
theorem end_F {listed : Array Bool} {a : Act} {w : World} (n : Nat) (hu : upTo ops listed n) (hn : ops.size = n) (h : Q .normal a w) {fuel : Nat} : wpAny P .any ops (NoPanic Q) fuel listed a w := by
  refine wpAny_done (Q := NoPanic Q) ?_ (NoPanic.normal h) fuel
  refine List.eq_nil_iff_forall_not_mem.2 fun j hj => ?_
  rw [mem_ready] at hj
  obtain ⟨hj0, q, hq, _⟩ := hj
  have hjs : j < ops.size := (Array.getElem?_eq_some_iff.1 hq).1
  rw [hu.2 j hjs] at hj0
  simp at hj0
  omega

/-! a region that does not draw, piece by piece -/
theorem wpList_append (l1 l2 : List Oper) : ∀ (a : Act) (w : World), wpList P ops (Exit.then (fun a w => wpList P ops Q l2 a w) Q) l1 a w → wpList P ops Q (l1 ++ l2) a w := by
  induction l1 with
  | nil => exact fun a w h => h
  | cons o l1 ih =>
    intro a w h
    rw [List.cons_append]
    unfold wpList at h ⊢
    split at h
    · rename_i hw
      rw [if_pos hw]
      rcases h with h | ⟨h, h2⟩
      · exact .inl (wp_congrQ (fun _ _ _ h => h) (fun h => h) (Oper.wp_mono ih h))
      · exact .inr ⟨h, h2⟩
    · rename_i hw
      rw [if_neg hw]
      exact ih _ _ h
theorem plain_F {id : Nat} {a : Act} {w : World} (n : Nat)
    (h : ∀ K : Act → World → Prop, (∀ a w, wpList P (ops.map shade) Q ((ops.toList.drop n).map slim) a w → K a w) → wpList P (ops.map shade) (Exit.then K Q) ((seg ops 0 n).map slim) a w) : (Code.region id ops false).wp P Q a w := by
  refine wp_region_list ?_
  rw [show ops.toList = seg ops 0 n ++ ops.toList.drop n from by simp [seg]]
  exact wpList_append _ _ _ _ (wpList_slim _ _ _ (h _ fun a w hh => wpList_slim _ _ _ hh))
theorem list_F {l : List Oper} {a : Act} {w : World} (n : Nat) (h : ∀ K : Act → World → Prop, (∀ a w, wpList P ops Q (l.drop n) a w → K a w) → wpList P ops (Exit.then K Q) (l.take n) a w) : wpList P ops Q l a w := by
  rw [← List.take_append_drop n l]
  exact wpList_append _ _ _ _ (h _ fun _ _ h => h)
end Go.Proofs.Ytcalipoknbbaaaa
