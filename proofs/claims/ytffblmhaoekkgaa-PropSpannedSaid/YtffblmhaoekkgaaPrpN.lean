/- Chapter 7's law: PropShown, plainly. -/
import Derived.Test.YtffblmhaoekkgaaPrpX2
namespace Go.Proofs.Ytffblmhaoekkgaa.prp
set_option linter.unusedSimpArgs false
set_option linter.unusedVariables false

/-! piles by numbers have no error -/
theorem stoneAt_err (xs : List Int) (hx : ∀ x ∈ xs, 0 ≤ x ∧ x ≤ 255) (hl : xs.length = 21) (k : Nat) (hk : k < 5) : stErr (stoneAt xs k) = 0 := by
  have he := edgeTo_bd xs hx hl k (by omega)
  have h0 := hx _ (getD_mem xs (1 + k * 4) 0 (by omega))
  have h1 := hx _ (getD_mem xs (1 + k * 4 + 1) 0 (by omega))
  have h2 := hx _ (getD_mem xs (1 + k * 4 + 2) 0 (by omega))
  have h3 := hx _ (getD_mem xs (1 + k * 4 + 3) 0 (by omega))
  unfold stoneAt made1 stErr isF
  generalize edgeTo xs k = e at *
  generalize xs.getD (1 + k * 4) 0 = x0 at *
  generalize xs.getD (1 + k * 4 + 1) 0 = x1 at *
  generalize xs.getD (1 + k * 4 + 2) 0 = x2 at *
  generalize xs.getD (1 + k * 4 + 3) 0 = x3 at *
  have a7 := Int.emod_nonneg x3 (show 10 - (1 + x2 % 9) ≠ 0 by omega)
  have a8 := Int.emod_lt_of_pos x3 (show (0 : Int) < 10 - (1 + x2 % 9) by omega)
  generalize x3 % (10 - (1 + x2 % 9)) = r at *
  rw [if_neg (by simp; omega), if_neg (by simp; omega)]
theorem snErr_zero : ∀ l : List Sn, (∀ s ∈ l, stErr s = 0) → snErr l = 0
  | [], _ => rfl
  | s :: l, h => by
    unfold snErr
    rw [if_neg (by simpa using h s (by simp))]
    exact snErr_zero l fun t ht => h t (by simp [ht])
theorem madeTo_get (xs : List Int) (n i : Nat) (hi : i < n) : (madeTo xs n).getD i zs = stoneAt xs i := by
  unfold madeTo; simp [hi]
theorem made_err (xs : List Int) (hx : ∀ x ∈ xs, 0 ≤ x ∧ x ≤ 255) (hl : xs.length = 21) (n : Nat) (h1 : 1 ≤ n) (h5 : n ≤ 5) : errP (madeTo xs n) = 0 := by
  have hlen := madeTo_length xs n
  unfold errP
  rw [if_neg (by omega), if_neg (by omega)]
  refine snErr_zero _ fun s hs => ?_
  unfold madeTo at hs
  obtain ⟨i, hi, rfl⟩ := List.mem_map.1 hs
  exact stoneAt_err xs hx hl i (by have := List.mem_range.1 hi; omega)

/-! the weights that PropShown tries -/
def shwX (s : Sn) (x : Int) : Int := if 250 < x then x - 250 + (4 * x) % 8 else truth1 s x
def shwTo (l : List Sn) (xs : List Int) (k : Nat) : List Int := (List.range k).map fun i => shwX (l.getD i zs) (xs.getD i 0)
theorem shwTo_succ (l : List Sn) (xs : List Int) (k : Nat) : shwTo l xs (k + 1) = shwTo l xs k ++ [shwX (l.getD k zs) (xs.getD k 0)] := by
  unfold shwTo; rw [List.range_succ, List.map_append]; rfl
theorem shwTo_length (l : List Sn) (xs : List Int) (k : Nat) : (shwTo l xs k).length = k := by simp [shwTo]
theorem shwTo_get (l : List Sn) (xs : List Int) (n i : Nat) (hi : i < n) : (shwTo l xs n).getD i 0 = shwX (l.getD i zs) (xs.getD i 0) := by
  unfold shwTo; simp [hi]
def outF (s : Sn) (x : Int) : Bool := !isF x s.least s.most
def wantTo (l : List Sn) (xs : List Int) : Nat → Int
  | 0 => 0
  | k + 1 => if wantTo l xs k = 0 ∧ outF (l.getD k zs) (shwX (l.getD k zs) (xs.getD k 0)) = true then 1 else wantTo l xs k
theorem wantTo_succ (l : List Sn) (xs : List Int) (k : Nat) : wantTo l xs (k + 1) = if wantTo l xs k = 0 ∧ outF (l.getD k zs) (shwX (l.getD k zs) (xs.getD k 0)) = true then 1 else wantTo l xs k := rfl
theorem wantTo_01 (l : List Sn) (xs : List Int) : ∀ k, wantTo l xs k = 0 ∨ wantTo l xs k = 1
  | 0 => .inl rfl
  | k + 1 => by
    have := wantTo_01 l xs k
    rw [wantTo_succ]
    split
    · exact .inr rfl
    · exact this
theorem want_err (l : List Sn) (xs : List Int) (k : Nat) (hk : k ≤ l.length) : wsErr l (shwTo l xs l.length) = if wantTo l xs k ≠ 0 then 1 else wsErr (l.drop k) ((shwTo l xs l.length).drop k) := by
  induction k with
  | zero => simp [wantTo]
  | succ k ih =>
    rw [ih (by omega), wsErr_at l _ k (by omega) (shwTo_length _ _ _), shwTo_get l xs _ k (by omega)]
    have h01 := wantTo_01 l xs k
    rw [wantTo_succ]
    unfold outF
    generalize wsErr (List.drop (k + 1) l) (List.drop (k + 1) (shwTo l xs l.length)) = R
    generalize isF (shwX (l.getD k zs) (xs.getD k 0)) (l.getD k zs).least (l.getD k zs).most = b
    rcases h01 with h | h
    · rw [h]; cases b <;> simp
    · rw [h]; simp
theorem want_truth (l : List Sn) (xs : List Int) : truthErr l (shwTo l xs l.length) = wantTo l xs l.length := by
  unfold truthErr
  rw [if_neg (by rw [shwTo_length]; simp), want_err l xs l.length (Nat.le_refl _)]
  have h01 := wantTo_01 l xs l.length
  have h0 : wsErr (l.drop l.length) ((shwTo l xs l.length).drop l.length) = 0 := by simp [wsErr]
  rw [h0]
  rcases h01 with h | h <;> simp [h]
theorem want_long (l : List Sn) (ws : List Int) (x : Int) (h : ws.length = l.length) : truthErr l (ws ++ [x]) = 5 := by
  unfold truthErr; rw [if_pos (by simp; omega)]
theorem truth1_bd {s : Sn} (hs : okS s) {x : Int} (hx : 0 ≤ x ∧ x ≤ 255) : s.least ≤ truth1 s x ∧ truth1 s x ≤ s.most := by
  obtain ⟨_, _, _, _, h5, h6, h7, h8, h9⟩ := hs
  have a := Int.tmod_nonneg (s.most - s.least + 1) hx.1
  have b := Int.tmod_lt_of_pos x (show (0 : Int) < s.most - s.least + 1 by omega)
  unfold truth1
  omega
theorem shwX_bd {s : Sn} (hs : okS s) {x : Int} (hx : 0 ≤ x ∧ x ≤ 255) : 0 ≤ shwX s x ∧ shwX s x ≤ 100 := by
  have ht := truth1_bd hs hx
  obtain ⟨_, _, _, _, h5, h6, h7, h8, h9⟩ := hs
  unfold shwX
  split <;> omega
/-! errors of a place, and of a side -/
theorem place_of {l : List Sn} (h : errP l = 0) (k : Int) : placeErr l k = if k < 0 ∨ (l.length : Int) ≤ k then 2 else 0 := by
  unfold placeErr isF
  rw [if_neg (by simpa using h)]
  by_cases a : k < 0 ∨ (l.length : Int) ≤ k
  · rw [if_pos a, if_neg (by simp; omega)]
  · rw [if_neg a, if_pos (by simp; omega)]
/-! moments of both sides -/
theorem psum_add (F G H : Nat → Int) (lv : Nat) (h : ∀ i, lv ≤ i → F i + G i = H i) : ∀ k, lv ≤ k → psum F lv k + psum G lv k = psum H lv k
  | 0, hk => by rw [show lv = 0 by omega]; simp [psum_self]
  | k + 1, hk => by
    by_cases e : lv = k + 1
    · subst e; simp [psum_self]
    · have ih := psum_add F G H lv h k (by omega)
      have hh := h k (by omega)
      rw [psum_succ F lv k (by omega), psum_succ G lv k (by omega), psum_succ H lv k (by omega)]
      omega
theorem psum_mul (F : Nat → Int) (c : Int) (lv : Nat) : ∀ k, lv ≤ k → psum (fun i => c * F i) lv k = c * psum F lv k
  | 0, hk => by rw [show lv = 0 by omega]; simp [psum_self]
  | k + 1, hk => by
    by_cases e : lv = k + 1
    · subst e; simp [psum_self]
    · rw [psum_succ _ lv k (by omega), psum_succ F lv k (by omega), psum_mul F c lv k (by omega), Int.mul_add]
theorem psum_drop (ws : List Int) (lv : Nat) : psum (fun i => ws.getD i 0) lv ws.length = (ws.drop lv).sum := by
  unfold psum
  congr 1
  apply List.ext_getElem?
  intro i
  by_cases h : lv + i < ws.length
  · simp [List.getElem?_drop, h]
  · simp [List.getElem?_drop, h]
theorem both_mom (l : List Sn) (ws : List Int) (lv : Nat) (h0 : lv ≠ 0) (hl : ws.length = l.length) (hlv : lv < l.length) :
    momS l ws lv 1 + momS l ws lv (-1) = -2 * (l.getD (lv - 1) zs).half * (ws.drop lv).sum := by
  rw [momR, momL, ← psum_drop, hl, ← psum_mul _ _ _ _ (by omega)]
  refine psum_add _ _ _ lv (fun i hi => ?_) l.length (by omega)
  simp only [addR, addL, edgeS, if_neg h0]
  generalize ws.getD i 0 = x
  generalize (l.getD i zs).at_ = a
  generalize (l.getD (lv - 1) zs).at_ = b
  generalize (l.getD (lv - 1) zs).half = c
  have e1 : x * (a - (b + 1 * c)) * 1 = x * a - x * b - x * c := by rw [Int.mul_one, Int.one_mul, Int.mul_sub, Int.mul_add]; omega
  have e2 : x * (a - (b + -1 * c)) * -1 = x * b - x * c - x * a := by
    rw [show (-1 : Int) * c = -c by omega, Int.mul_sub, Int.mul_add, Int.mul_neg, Int.mul_neg, Int.mul_one]; omega
  have e3 : -2 * c * x = -(x * c) - x * c := by rw [Int.mul_assoc, Int.mul_comm c x]; omega
  rw [e1, e2, e3]; omega
theorem prove_of (l : List Sn) (ws : List Int) (lv : Nat) (hp : placeErr l lv = 0) (ht : truthErr l ws = 0) :
    provesOf l ws lv = if 0 < momS l ws lv 1 ∨ (lv ≠ 0 ∧ 0 < momS l ws lv (-1)) then 0 else 14 := by
  unfold provesOf
  rw [if_neg (by simpa using hp), if_neg (by simpa using ht)]
  have : ((sidesS (lv : Int)).any fun d => decide (0 < momS l ws (lv : Int).toNat d)) = decide (0 < momS l ws lv 1 ∨ (lv ≠ 0 ∧ 0 < momS l ws lv (-1))) := by
    unfold sidesS
    by_cases h : lv = 0
    · subst h; simp
    · rw [if_neg (by omega)]; simp [h]
  rw [this]
  simp
end Go.Proofs.Ytffblmhaoekkgaa.prp
