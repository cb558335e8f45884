/- A reckoner for closed runs: values, memory and their reading in the model's worlds. -/
import Derived.Orders
import Derived.Below
import Derived.Deep.MidRow
import Derived.Laws.AppendOwn
namespace Go.Proofs.YtcllgicphjmamaaGreat.ev
open Go.RowKit
set_option linter.unusedSimpArgs false
set_option linter.unusedVariables false
set_option linter.unusedSectionVars false

/-! a tree of numbered places -/
inductive Tr (α : Type) where
  | nil
  | leaf (v : α)
  | node (l r : Tr α)
noncomputable def Tr.get {α : Type} (t : Tr α) : Nat → Option α :=
  Tr.rec (motive := fun _ => Nat → Option α) (fun _ => none) (fun v _ => some v) (fun _ _ gl gr n => Bool.rec (gr (Nat.div n 2)) (gl (Nat.div n 2)) (Nat.beq (Nat.mod n 2) 0)) t
def Tr.left {α : Type} : Tr α → Tr α
  | .node l _ => l
  | t => t
def Tr.right {α : Type} : Tr α → Tr α
  | .node _ r => r
  | t => t
noncomputable def Tr.set {α : Type} (v : α) (d : Nat) : Tr α → Nat → Tr α :=
  Nat.rec (motive := fun _ => Tr α → Nat → Tr α) (fun _ _ => .leaf v) (fun _ s t n =>
    Tr.casesOn (motive := fun _ => Tr α) t
      (Bool.rec (.node .nil (s .nil (Nat.div n 2))) (.node (s .nil (Nat.div n 2)) .nil) (Nat.beq (Nat.mod n 2) 0))
      (fun u => Bool.rec (.node (.leaf u) (s (.leaf u) (Nat.div n 2))) (.node (s (.leaf u) (Nat.div n 2)) (.leaf u)) (Nat.beq (Nat.mod n 2) 0))
      (fun l r => Bool.rec (.node l (s r (Nat.div n 2))) (.node (s l (Nat.div n 2)) r) (Nat.beq (Nat.mod n 2) 0))) d
theorem Tr.get_nil {α : Type} (n : Nat) : Tr.get (.nil : Tr α) n = none := rfl
theorem Tr.get_leaf {α : Type} (v : α) (n : Nat) : Tr.get (.leaf v) n = some v := rfl
theorem beq_no {n : Nat} (h : ¬ n = 0) : Nat.beq n 0 = false := by
  cases h2 : Nat.beq n 0 with
  | false => rfl
  | true => exact absurd (Nat.eq_of_beq_eq_true h2) h
theorem Tr.get_node {α : Type} (l r : Tr α) (n : Nat) : Tr.get (.node l r) n = if n % 2 = 0 then Tr.get l (n / 2) else Tr.get r (n / 2) := by
  show Bool.rec (motive := fun _ => Option α) (Tr.get r (n / 2)) (Tr.get l (n / 2)) (Nat.beq (n % 2) 0) = _
  by_cases h : n % 2 = 0
  · rw [if_pos h, h]; rfl
  · rw [if_neg h, beq_no h]
theorem Tr.set_succ {α : Type} (v : α) (d : Nat) (t : Tr α) (n : Nat) : Tr.set v (d + 1) t n = if n % 2 = 0 then .node (Tr.set v d (Tr.left t) (n / 2)) (Tr.right t) else .node (Tr.left t) (Tr.set v d (Tr.right t) (n / 2)) := by
  have e : Tr.set v (d + 1) t n = Bool.rec (motive := fun _ => Tr α) (Tr.node (Tr.left t) (Tr.set v d (Tr.right t) (n / 2))) (.node (Tr.set v d (Tr.left t) (n / 2)) (Tr.right t)) (Nat.beq (n % 2) 0) := by
    cases t <;> rfl
  rw [e]
  by_cases h : n % 2 = 0
  · rw [if_pos h, h]; rfl
  · rw [if_neg h, beq_no h]
theorem Tr.get_half {α : Type} (t : Tr α) (n : Nat) : Tr.get t n = if n % 2 = 0 then Tr.get (Tr.left t) (n / 2) else Tr.get (Tr.right t) (n / 2) := by
  cases t with
  | nil => simp [Tr.left, Tr.right, Tr.get_nil]
  | leaf u => simp [Tr.left, Tr.right, Tr.get_leaf]
  | node l r => exact Tr.get_node l r n
theorem Tr.get_set {α : Type} : ∀ (d : Nat) (t : Tr α) (n m : Nat) (v : α), n < 2 ^ d → m < 2 ^ d → Tr.get (Tr.set v d t n) m = if n = m then some v else Tr.get t m
  | 0, t, n, m, v, hn, hm => by
    have : n = m := by simp at hn hm; omega
    rw [if_pos this]; rfl
  | d + 1, t, n, m, v, hn, hm => by
    have hn2 : n / 2 < 2 ^ d := by rw [Nat.pow_succ] at hn; omega
    have hm2 : m / 2 < 2 ^ d := by rw [Nat.pow_succ] at hm; omega
    have hl := Tr.get_set d (Tr.left t) (n / 2) (m / 2) v hn2 hm2
    have hr := Tr.get_set d (Tr.right t) (n / 2) (m / 2) v hn2 hm2
    rw [Tr.set_succ, Tr.get_half t m]
    by_cases a : n % 2 = 0 <;> by_cases b : m % 2 = 0 <;> simp only [Tr.get_node, a, b, if_true, if_false, hl, hr]
    · by_cases h : n / 2 = m / 2
      · have : n = m := by omega
        simp [this]
      · have : n ≠ m := fun e => h (by rw [e])
        simp [h, this]
    · have : n ≠ m := fun e => by omega
      simp [this]
    · have : n ≠ m := fun e => by omega
      simp [this]
    · by_cases h : n / 2 = m / 2
      · have : n = m := by omega
        simp [this]
      · have : n ≠ m := fun e => h (by rw [e])
        simp [h, this]

/-! rows of eight, with ways to read and to set their places: a way is a closed term, reckoned once -/
inductive N8 (α : Type) where
  | mk (a b c d e f g h : α)
structure Gt (α β : Type) where
  get : α → β
structure S2 (α : Type) where
  set : Value → α → α
def pick8 {α : Type} (i : Nat) : N8 α → α
  | .mk a b c d e f g h => match i with
    | 0 => a
    | 1 => b
    | 2 => c
    | 3 => d
    | 4 => e
    | 5 => f
    | 6 => g
    | _ => h
noncomputable def sel {α β : Type} (i : Nat) (k : Gt α β) : Gt (N8 α) β :=
  match i with
  | 0 => ⟨fun s => N8.rec (fun a _ _ _ _ _ _ _ => k.get a) s⟩
  | 1 => ⟨fun s => N8.rec (fun _ a _ _ _ _ _ _ => k.get a) s⟩
  | 2 => ⟨fun s => N8.rec (fun _ _ a _ _ _ _ _ => k.get a) s⟩
  | 3 => ⟨fun s => N8.rec (fun _ _ _ a _ _ _ _ => k.get a) s⟩
  | 4 => ⟨fun s => N8.rec (fun _ _ _ _ a _ _ _ => k.get a) s⟩
  | 5 => ⟨fun s => N8.rec (fun _ _ _ _ _ a _ _ => k.get a) s⟩
  | 6 => ⟨fun s => N8.rec (fun _ _ _ _ _ _ a _ => k.get a) s⟩
  | _ => ⟨fun s => N8.rec (fun _ _ _ _ _ _ _ a => k.get a) s⟩
noncomputable def upd {α : Type} (i : Nat) (k : S2 α) : S2 (N8 α) :=
  match i with
  | 0 => ⟨fun v s => N8.rec (fun a b c d e f g h => N8.mk (k.set v a) b c d e f g h) s⟩
  | 1 => ⟨fun v s => N8.rec (fun a b c d e f g h => N8.mk a (k.set v b) c d e f g h) s⟩
  | 2 => ⟨fun v s => N8.rec (fun a b c d e f g h => N8.mk a b (k.set v c) d e f g h) s⟩
  | 3 => ⟨fun v s => N8.rec (fun a b c d e f g h => N8.mk a b c (k.set v d) e f g h) s⟩
  | 4 => ⟨fun v s => N8.rec (fun a b c d e f g h => N8.mk a b c d (k.set v e) f g h) s⟩
  | 5 => ⟨fun v s => N8.rec (fun a b c d e f g h => N8.mk a b c d e (k.set v f) g h) s⟩
  | 6 => ⟨fun v s => N8.rec (fun a b c d e f g h => N8.mk a b c d e f (k.set v g) h) s⟩
  | _ => ⟨fun v s => N8.rec (fun a b c d e f g h => N8.mk a b c d e f g (k.set v h)) s⟩
theorem lt8 {i : Nat} (h : i < 8) : i = 0 ∨ i = 1 ∨ i = 2 ∨ i = 3 ∨ i = 4 ∨ i = 5 ∨ i = 6 ∨ i = 7 := by omega
theorem sel_eq {α β : Type} {i : Nat} (h : i < 8) (k : Gt α β) (s : N8 α) : (sel i k).get s = k.get (pick8 i s) := by
  cases s
  rcases lt8 h with rfl | rfl | rfl | rfl | rfl | rfl | rfl | rfl <;> rfl
theorem pick_upd {α : Type} {i j : Nat} (hi : i < 8) (hj : j < 8) (k : S2 α) (v : Value) (s : N8 α) : pick8 i ((upd j k).set v s) = if i = j then k.set v (pick8 i s) else pick8 i s := by
  cases s
  rcases lt8 hi with rfl | rfl | rfl | rfl | rfl | rfl | rfl | rfl <;> rcases lt8 hj with rfl | rfl | rfl | rfl | rfl | rfl | rfl | rfl <;> rfl
def Lens {α : Type} (m : Nat) (A : Nat → Gt α Value) (S : Nat → S2 α) : Prop := ∀ i j v s, i < m → j < m → (A i).get ((S j).set v s) = if i = j then v else (A i).get s
noncomputable def accL {α : Type} (m : Nat) (A : Nat → Gt α Value) (t : Nat) : Gt (N8 α) Value := sel (Nat.div t m) (A (Nat.mod t m))
noncomputable def sacL {α : Type} (m : Nat) (S : Nat → S2 α) (t : Nat) : S2 (N8 α) := upd (Nat.div t m) (S (Nat.mod t m))
theorem lens_up {α : Type} {m : Nat} {A : Nat → Gt α Value} {S : Nat → S2 α} (h : Lens m A S) (hm : 0 < m) : Lens (m * 8) (accL m A) (sacL m S) := by
  intro i j v s hi hj
  have hi1 : i / m < 8 := Nat.div_lt_of_lt_mul hi
  have hj1 : j / m < 8 := Nat.div_lt_of_lt_mul hj
  have hi2 : i % m < m := Nat.mod_lt _ hm
  have hj2 : j % m < m := Nat.mod_lt _ hm
  show (sel (i / m) (A (i % m))).get ((upd (j / m) (S (j % m))).set v s) = if i = j then v else (sel (i / m) (A (i % m))).get s
  rw [sel_eq hi1, sel_eq hi1, pick_upd hi1 hj1]
  by_cases e : i / m = j / m
  · rw [if_pos e, h _ _ _ _ hi2 hj2]
    by_cases e2 : i % m = j % m
    · have : i = j := by rw [← Nat.div_add_mod i m, ← Nat.div_add_mod j m, e, e2]
      rw [if_pos e2, if_pos this]
    · rw [if_neg e2, if_neg (fun h => e2 (by rw [h]))]
  · rw [if_neg e, if_neg (fun h => e (by rw [h]))]
noncomputable def accS : Nat → Gt (N8 (N8 (N8 Value))) Value := accL 64 (accL 8 (accL 1 fun _ => ⟨fun v => v⟩))
noncomputable def sacS : Nat → S2 (N8 (N8 (N8 Value))) := sacL 64 (sacL 8 (sacL 1 fun _ => ⟨fun v _ => v⟩))
theorem lensS : Lens 512 accS sacS := by
  have h0 : Lens 1 (fun _ => (⟨fun v => v⟩ : Gt Value Value)) fun _ => ⟨fun v _ => v⟩ := fun i j v s hi hj => by rw [if_pos (by omega)]
  exact lens_up (lens_up (lens_up h0 (by omega)) (by omega)) (by omega)
def n8 {α : Type} (x : α) : N8 α := .mk x x x x x x x x
def zS (u : Value) : N8 (N8 (N8 Value)) := n8 (n8 (n8 u))
theorem pick_n8 {α : Type} {i : Nat} (h : i < 8) (x : α) : pick8 i (n8 x) = x := by
  rcases lt8 h with rfl | rfl | rfl | rfl | rfl | rfl | rfl | rfl <;> rfl
theorem accS_z {t : Nat} (h : t < 512) (u : Value) : (accS t).get (zS u) = u := by
  show (sel (t / 64) (sel (t % 64 / 8) (sel (t % 64 % 8 / 1) ⟨fun v => v⟩))).get (zS u) = u
  rw [sel_eq (by omega), zS, pick_n8 (by omega), sel_eq (by omega), pick_n8 (by omega), sel_eq (by omega), pick_n8 (by omega)]

/-! values: a place is a number of the reckoner's own; a capacity that only the world knows is 'opn' -/
def opn : Nat := 4611686018427387904
structure Loc where
  blk : Nat
  sh : Nat
  size : Nat
  esz : Nat
abbrev Mu := Nat → Option Loc
def scalar : Value → Bool
  | .bool _ | .int .. | .string _ | .nilFunc | .nilIface | .pointer none | .map none | .slice none 0 0 => true
  | _ => false
mutual
inductive VRel (μ : Mu) : Value → Value → Prop
  | sc (v : Value) (h : scalar v = true) : VRel μ v v
  | ptr (k o : Nat) (L : Loc) (h : μ k = some L) : VRel μ (.pointer (some ⟨k, o, none⟩)) (.pointer (some ⟨L.blk, o + L.sh, none⟩))
  | slc (k o n c : Nat) (L : Loc) (h : μ k = some L) (hc : c < opn) : VRel μ (.slice (some ⟨k, o, none⟩) n c) (.slice (some ⟨L.blk, o + L.sh, none⟩) n c)
  | slo (k o n c : Nat) (L : Loc) (h : μ k = some L) (hn : n ≤ c) (hs : o + L.sh + c * L.esz = L.size) : VRel μ (.slice (some ⟨k, o, none⟩) n opn) (.slice (some ⟨L.blk, o + L.sh, none⟩) n c)
  | sle (k o o' : Nat) (L : Loc) (h : μ k = some L) (hs : o + L.sh = L.size) : VRel μ (.slice (some ⟨k, o, none⟩) 0 opn) (.slice (some ⟨L.blk, o', none⟩) 0 0)
  | iface (t : TypeId) (v v' : Value) (h : VRel μ v v') : VRel μ (.iface t v) (.iface t v')
  | agg (l l' : List Value) (h : LRel μ l l') : VRel μ (.agg l.toArray) (.agg l'.toArray)
  | tuple (l l' : List Value) (h : LRel μ l l') : VRel μ (.tuple l.toArray) (.tuple l'.toArray)
  | fn (g : FuncId) (l l' c c' : List Value) (h : LRel μ l l') (hc : LRel μ c c') : VRel μ (.func (.func g) l.toArray c.toArray) (.func (.func g) l'.toArray c'.toArray)
inductive LRel (μ : Mu) : List Value → List Value → Prop
  | nil : LRel μ [] []
  | cons (v v' : Value) (l l' : List Value) (h : VRel μ v v') (hl : LRel μ l l') : LRel μ (v :: l) (v' :: l')
end
def Mu.le (μ μ' : Mu) : Prop := ∀ k L, μ k = some L → μ' k = some L
mutual
theorem VRel.mono {μ μ' : Mu} (hm : μ.le μ') : ∀ {v v' : Value}, VRel μ v v' → VRel μ' v v'
  | _, _, .sc v h => .sc v h
  | _, _, .ptr k o L h => .ptr k o L (hm _ _ h)
  | _, _, .slc k o n c L h hc => .slc k o n c L (hm _ _ h) hc
  | _, _, .slo k o n c L h hn hs => .slo k o n c L (hm _ _ h) hn hs
  | _, _, .sle k o o' L h hs => .sle k o o' L (hm _ _ h) hs
  | _, _, .iface t v v' h => .iface t v v' (h.mono hm)
  | _, _, .agg l l' h => .agg l l' (h.mono hm)
  | _, _, .tuple l l' h => .tuple l l' (h.mono hm)
  | _, _, .fn g l l' c c' h hc => .fn g l l' c c' (h.mono hm) (hc.mono hm)
theorem LRel.mono {μ μ' : Mu} (hm : μ.le μ') : ∀ {l l' : List Value}, LRel μ l l' → LRel μ' l l'
  | _, _, .nil => .nil
  | _, _, .cons v v' l l' h hl => .cons v v' l l' (h.mono hm) (hl.mono hm)
end
theorem LRel.length {μ : Mu} : ∀ {l l' : List Value}, LRel μ l l' → l.length = l'.length
  | _, _, .nil => rfl
  | _, _, .cons v v' l l' h hl => by simp [hl.length]
theorem LRel.append {μ : Mu} : ∀ {l l' m m' : List Value}, LRel μ l l' → LRel μ m m' → LRel μ (l ++ m) (l' ++ m')
  | _, _, _, _, .nil, h => h
  | _, _, _, _, .cons v v' l l' h hl, k => .cons _ _ _ _ h (hl.append k)
theorem LRel.get {μ : Mu} : ∀ {l l' : List Value}, LRel μ l l' → ∀ (i : Nat) (v : Value), l[i]? = some v → ∃ v', l'[i]? = some v' ∧ VRel μ v v'
  | _, _, .nil, i, v, h => by simp at h
  | _, _, .cons u u' l l' h hl, 0, v, e => ⟨u', rfl, by simp at e; rw [← e]; exact h⟩
  | _, _, .cons u u' l l' h hl, i + 1, v, e => by
    obtain ⟨v', h1, h2⟩ := hl.get i v (by simpa using e)
    exact ⟨v', by simpa using h1, h2⟩
theorem vrel_undef (μ : Mu) : VRel μ undef undef := .tuple [] [] .nil
theorem LRel.getD {μ : Mu} : ∀ {l l' : List Value}, LRel μ l l' → ∀ (i : Nat), VRel μ (l.getD i undef) (l'.getD i undef)
  | _, _, .nil, i => by simpa using vrel_undef μ
  | _, _, .cons u u' l l' h hl, 0 => by simpa using h
  | _, _, .cons u u' l l' h hl, i + 1 => by simpa using hl.getD i
theorem LRel.set {μ : Mu} {v v' : Value} (hv : VRel μ v v') : ∀ {l l' : List Value}, LRel μ l l' → ∀ (i : Nat), LRel μ (l.set i v) (l'.set i v')
  | _, _, .nil, i => .nil
  | _, _, .cons u u' l l' h hl, 0 => .cons _ _ _ _ hv hl
  | _, _, .cons u u' l l' h hl, i + 1 => .cons _ _ _ _ h (hl.set hv i)
theorem LRel.take {μ : Mu} : ∀ {l l' : List Value}, LRel μ l l' → ∀ (i : Nat), LRel μ (l.take i) (l'.take i)
  | _, _, .nil, i => by simpa using LRel.nil
  | _, _, .cons u u' l l' h hl, 0 => by simpa using LRel.nil
  | _, _, .cons u u' l l' h hl, i + 1 => by simpa using LRel.cons _ _ _ _ h (hl.take i)
theorem LRel.drop {μ : Mu} : ∀ {l l' : List Value}, LRel μ l l' → ∀ (i : Nat), LRel μ (l.drop i) (l'.drop i)
  | _, _, .nil, i => by simpa using LRel.nil
  | _, _, .cons u u' l l' h hl, 0 => by simpa using LRel.cons _ _ _ _ h hl
  | _, _, .cons u u' l l' h hl, i + 1 => by simpa using hl.drop i
theorem LRel.map {μ : Mu} {α : Type} {f f' : α → Value} : ∀ (l : List α), (∀ x ∈ l, VRel μ (f x) (f' x)) → LRel μ (l.map f) (l.map f')
  | [], _ => .nil
  | x :: l, h => .cons _ _ _ _ (h x (by simp)) (LRel.map l fun y hy => h y (by simp [hy]))
theorem lrel_get {μ : Mu} : ∀ {l l' : List Value}, l.length = l'.length → (∀ (i : Nat) (v v' : Value), l[i]? = some v → l'[i]? = some v' → VRel μ v v') → LRel μ l l'
  | [], [], _, _ => .nil
  | v :: l, v' :: l', h, k => .cons _ _ _ _ (k 0 v v' rfl rfl) (lrel_get (by simpa using h) fun i u u' a b => k (i + 1) u u' (by simpa using a) (by simpa using b))
  | [], _ :: _, h, _ => by simp at h
  | _ :: _, [], h, _ => by simp at h

/-! what holds no place -/
def flatL : List Value → Bool
  | [] => true
  | v :: l => scalar v && flatL l
def flat1 : Value → Bool
  | .agg cs => flatL cs.toList
  | .iface _ v => scalar v
  | v => scalar v
def flatL1 : List Value → Bool
  | [] => true
  | v :: l => flat1 v && flatL1 l
def flat : Value → Bool
  | .tuple cs => flatL1 cs.toList
  | .iface _ v => flat1 v
  | .func (.func _) a c => flatL1 a.toList && flatL1 c.toList
  | v => flat1 v
theorem scalar_eq {μ : Mu} {v v' : Value} (h : scalar v = true) (r : VRel μ v v') : v' = v := by
  cases r <;> first | rfl | (simp [scalar] at h)
theorem flatL_eq {μ : Mu} : ∀ {l l' : List Value}, LRel μ l l' → flatL l = true → l' = l
  | _, _, .nil, _ => rfl
  | _, _, .cons v v' l l' hv hl, h => by
    simp [flatL] at h
    rw [scalar_eq h.1 hv, flatL_eq hl h.2]
theorem flat1_eq {μ : Mu} {v v' : Value} (h : flat1 v = true) (r : VRel μ v v') : v' = v := by
  cases r with
  | agg l l' hl => simp [flat1] at h; rw [flatL_eq hl h]
  | iface t v v' hv => simp [flat1] at h; rw [scalar_eq h hv]
  | sc v hs => rfl
  | _ => simp [flat1, scalar] at h
theorem flatL1_eq {μ : Mu} : ∀ {l l' : List Value}, LRel μ l l' → flatL1 l = true → l' = l
  | _, _, .nil, _ => rfl
  | _, _, .cons v v' l l' hv hl, h => by
    simp [flatL1] at h
    rw [flat1_eq h.1 hv, flatL1_eq hl h.2]
theorem flat_eq {μ : Mu} {v v' : Value} (h : flat v = true) (r : VRel μ v v') : v' = v := by
  cases r with
  | tuple l l' hl => simp [flat] at h; rw [flatL1_eq hl h]
  | agg l l' hl => simp [flat, flat1] at h; rw [flatL_eq hl h]
  | iface t v v' hv => simp [flat] at h; rw [flat1_eq h hv]
  | fn g l l' c c' hl hc => simp [flat] at h; rw [flatL1_eq hl h.1, flatL1_eq hc h.2]
  | sc v hs => rfl
  | _ => simp [flat, flat1, scalar] at h
theorem flatL_rel (μ : Mu) : ∀ {l : List Value}, flatL l = true → LRel μ l l
  | [], _ => .nil
  | v :: l, h => by simp [flatL] at h; exact .cons _ _ _ _ (.sc _ h.1) (flatL_rel μ h.2)
theorem flat1_rel (μ : Mu) {v : Value} (h : flat1 v = true) : VRel μ v v := by
  cases v with
  | agg cs => have := VRel.agg _ _ (flatL_rel μ (l := cs.toList) (by simpa [flat1] using h)); simpa using this
  | iface t v => exact .iface _ _ _ (.sc _ (by simpa [flat1] using h))
  | _ => exact .sc _ (by simpa [flat1] using h)
theorem flatL1_rel (μ : Mu) : ∀ {l : List Value}, flatL1 l = true → LRel μ l l
  | [], _ => .nil
  | v :: l, h => by simp [flatL1] at h; exact .cons _ _ _ _ (flat1_rel μ h.1) (flatL1_rel μ h.2)
theorem flat_rel (μ : Mu) {v : Value} (h : flat v = true) : VRel μ v v := by
  cases v with
  | tuple cs => have := VRel.tuple _ _ (flatL1_rel μ (l := cs.toList) (by simpa [flat] using h)); simpa using this
  | iface t v => exact .iface _ _ _ (flat1_rel μ (by simpa [flat] using h))
  | func g a c =>
    cases g with
    | func g =>
      simp [flat] at h
      have := VRel.fn (μ := μ) g _ _ _ _ (flatL1_rel μ h.1) (flatL1_rel μ h.2)
      simpa using this
    | _ => simp [flat, flat1, scalar] at h
  | _ => exact flat1_rel μ (by simpa [flat] using h)
end Go.Proofs.YtcllgicphjmamaaGreat.ev
