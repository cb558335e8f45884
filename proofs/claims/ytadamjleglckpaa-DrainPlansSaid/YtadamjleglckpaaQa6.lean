/- Helper of the law: large. -/
import Derived.Test.YtadamjleglckpaaQa5
import Derived.Orders
import Derived.Below
import Derived.Deep.MidRow
import Derived.Laws.AppendOwn

namespace Go.Proofs.Ytadamjleglckpaa.drn
open Go.RowKit
set_option linter.unusedSimpArgs false
set_option linter.unusedVariables false
theorem large_any (n : Int) (q q2 : Option Addr) (m cap l cap2 : Nat) (w : World) :
    Calls Try.prog 5 #[hillV n q m cap, .slice q2 l cap2] w fun e w' => e = .returned (.bool (decide (40 < m) || decide (40 < l))) ∧ Below w.heap.size w w' := by
  unfold hillV
  by_cases h1 : 40 < m
  · have h1' : (40 : Int) < m := by omega
    go_enter Try.func5, Try.ntmps5
    go_wp2
    go_ret
    exact ⟨ret_bool (by simp [h1]), (Below.refl _ _).alloc (Nat.le_refl _) _⟩
  · have h1' : ¬ (40 : Int) < m := by omega
    by_cases h2 : 40 < l
    · have h2' : (40 : Int) < l := by omega
      go_enter Try.func5, Try.ntmps5
      go_wp2
      go_ret
      exact ⟨ret_bool (by simp [h1, h2]), (Below.refl _ _).alloc (Nat.le_refl _) _⟩
    · have h2' : ¬ (40 : Int) < l := by omega
      go_enter Try.func5, Try.ntmps5
      go_wp2
      go_ret
      exact ⟨ret_bool (by simp [h1, h2]), (Below.refl _ _).alloc (Nat.le_refl _) _⟩

end Go.Proofs.Ytadamjleglckpaa.drn

/- Helper of the law: same. -/
namespace Go.Proofs.Ytadamjleglckpaa.drn
open Go.RowKit
set_option linter.unusedSimpArgs false
set_option linter.unusedVariables false
theorem take_succ_eq {α : Type} {xs ys : List α} {k : Nat} (hx : k < xs.length) (hy : k < ys.length) (d : α) (h : xs.take k = ys.take k) (he : xs.getD k d = ys.getD k d) : xs.take (k + 1) = ys.take (k + 1) := by
  rw [List.take_succ_eq_append_getElem hx, List.take_succ_eq_append_getElem hy, h]
  rw [getD_eq xs k d hx, getD_eq ys k d hy] at he
  rw [he]

set_option maxRecDepth 100000 in
set_option maxHeartbeats 400000 in
theorem same_any (q1 q2 : Option Addr) (c1 c2 : Nat) (xs ys : List Int) (w : World) (h1 : RowV w q1 (flatI xs)) (h2 : RowV w q2 (flatI ys)) (l1 : xs.length ≤ 1000000) (l2 : ys.length ≤ 1000000) :
    Calls Try.prog 11 #[.slice q1 xs.length c1, .slice q2 ys.length c2] w fun e w' => e = .returned (.bool (xs == ys)) ∧ Below w.heap.size w w' := by
  have H1 := Lib.hid h1
  have H2 := Lib.hid h2
  clear h1 h2
  by_cases hl : xs.length = ys.length
  · have hl' : ((xs.length : Int) != (ys.length : Int)) = false := by simp [hl]
    have hlen := hl
    generalize hn : ys.length = n at *
    have HL := Lib.hid hl
    have HN := Lib.hid hn
    rw [hl] at l1 hl' ⊢
    clear hl hn hlen
    go_enter Try.func11, Try.ntmps11
    go_wp2
    go_loopw [5] (fun i wr => ∃ k : Nat, k ≤ n ∧ i = .int .i64 k ∧ xs.take k = ys.take k ∧ Below w.heap.size w wr) (fun i _ => n - (intOf i).toNat)
    case atStart => exact ⟨0, Nat.zero_le _, rfl, rfl, Below.refl _ _⟩
    case round =>
      obtain ⟨k, hk, rfl, htk, hbel⟩ := hrel
      by_cases hlt : k < n
      · obtain ⟨b1, o1, rfl, hz1, g1⟩ := rowI_at H1.out (show k < xs.length by rw [HL.out]; exact hlt) (Nat.le_refl _) hbel
        obtain ⟨b2, o2, rfl, hz2, g2⟩ := rowI_at H2.out (show k < ys.length by rw [HN.out]; exact hlt) (Nat.le_refl _) hbel
        have hts := take_succ_eq (xs := xs) (ys := ys) (k := k) (by rw [HL.out]; exact hlt) (by rw [HN.out]; exact hlt) 0 htk
        have HTS := Lib.hid hts
        have hne : xs.getD k 0 ≠ ys.getD k 0 → xs ≠ ys := fun h e => h (by rw [e])
        have HNE := Lib.hid hne
        generalize xs.getD k 0 = x at g1 HTS HNE
        generalize ys.getD k 0 = y at g2 HTS HNE
        clear hts hne htk
        by_cases hxy : x = y
        · have hxy' : (x != y) = false := by simp [hxy]
          have HE := Lib.hid hxy
          clear hxy
          go_wp2
          go_quiet (fail)
          go_wp2
          go_roundw
          case rel => exact ⟨k + 1, hlt, by go_num, HTS.out HE.out, by first | exact below_drewN hbel _ | exact hbel.drew⟩
          case measure => simp [intOf]; omega
        · have hxy' : (x != y) = true := by simp [hxy]
          have HE := Lib.hid hxy
          clear hxy
          go_wp2
          go_quiet (fail)
          go_wp2
          go_ret
          exact ⟨ret_bool (beq_eq_false_iff_ne.2 (HNE.out HE.out)).symm, by first | exact below_drewN hbel _ | exact hbel.drew⟩
      · obtain rfl : k = n := by omega
        have he : xs = ys := by
          rw [List.take_of_length_le (by rw [HL.out]; exact Nat.le_refl _), List.take_of_length_le (by rw [HN.out]; exact Nat.le_refl _)] at htk
          exact htk
        have HE := Lib.hid he
        clear htk he
        go_wp2
        go_ret
        exact ⟨ret_bool (by rw [HE.out]; exact (beq_self_eq_true ys).symm), hbel⟩
  · have hl' : ((xs.length : Int) != (ys.length : Int)) = true := by simp; omega
    go_enter Try.func11, Try.ntmps11
    go_wp2
    go_ret
    refine ⟨ret_bool ?_, Below.refl _ _⟩
    symm
    rw [beq_eq_false_iff_ne]
    intro e
    exact hl (by rw [e])
end Go.Proofs.Ytadamjleglckpaa.drn

/- A reckoner for closed runs: values, memory and their reading in the model's worlds. -/
namespace Go.Proofs.Ytadamjleglckpaa.ev
open Go.RowKit
set_option linter.unusedSimpArgs false
set_option linter.unusedVariables false
set_option linter.unusedSectionVars false

/-! a tree of numbered places -/
inductive Tr (α : Type) where
  | nil
  | leaf (v : α)
  | node (l r : Tr α)
noncomputable def Tr.get {α : Type} (t : Tr α) : Nat → Option α :=
  Tr.rec (motive := fun _ => Nat → Option α) (fun _ => none) (fun v _ => some v) (fun _ _ gl gr n => Bool.rec (gr (Nat.div n 2)) (gl (Nat.div n 2)) (Nat.beq (Nat.mod n 2) 0)) t
def Tr.left {α : Type} : Tr α → Tr α
  | .node l _ => l
  | t => t
def Tr.right {α : Type} : Tr α → Tr α
  | .node _ r => r
  | t => t
noncomputable def Tr.set {α : Type} (v : α) (d : Nat) : Tr α → Nat → Tr α :=
  Nat.rec (motive := fun _ => Tr α → Nat → Tr α) (fun _ _ => .leaf v) (fun _ s t n =>
    Tr.casesOn (motive := fun _ => Tr α) t
      (Bool.rec (.node .nil (s .nil (Nat.div n 2))) (.node (s .nil (Nat.div n 2)) .nil) (Nat.beq (Nat.mod n 2) 0))
      (fun u => Bool.rec (.node (.leaf u) (s (.leaf u) (Nat.div n 2))) (.node (s (.leaf u) (Nat.div n 2)) (.leaf u)) (Nat.beq (Nat.mod n 2) 0))
      (fun l r => Bool.rec (.node l (s r (Nat.div n 2))) (.node (s l (Nat.div n 2)) r) (Nat.beq (Nat.mod n 2) 0))) d
theorem Tr.get_nil {α : Type} (n : Nat) : Tr.get (.nil : Tr α) n = none := rfl
theorem Tr.get_leaf {α : Type} (v : α) (n : Nat) : Tr.get (.leaf v) n = some v := rfl
theorem beq_no {n : Nat} (h : ¬ n = 0) : Nat.beq n 0 = false := by
  cases h2 : Nat.beq n 0 with
  | false => rfl
  | true => exact absurd (Nat.eq_of_beq_eq_true h2) h
theorem Tr.get_node {α : Type} (l r : Tr α) (n : Nat) : Tr.get (.node l r) n = if n % 2 = 0 then Tr.get l (n / 2) else Tr.get r (n / 2) := by
  show Bool.rec (motive := fun _ => Option α) (Tr.get r (n / 2)) (Tr.get l (n / 2)) (Nat.beq (n % 2) 0) = _
  by_cases h : n % 2 = 0
  · rw [if_pos h, h]; rfl
  · rw [if_neg h, beq_no h]
theorem Tr.set_succ {α : Type} (v : α) (d : Nat) (t : Tr α) (n : Nat) : Tr.set v (d + 1) t n = if n % 2 = 0 then .node (Tr.set v d (Tr.left t) (n / 2)) (Tr.right t) else .node (Tr.left t) (Tr.set v d (Tr.right t) (n / 2)) := by
  have e : Tr.set v (d + 1) t n = Bool.rec (motive := fun _ => Tr α) (Tr.node (Tr.left t) (Tr.set v d (Tr.right t) (n / 2))) (.node (Tr.set v d (Tr.left t) (n / 2)) (Tr.right t)) (Nat.beq (n % 2) 0) := by
    cases t <;> rfl
  rw [e]
  by_cases h : n % 2 = 0
  · rw [if_pos h, h]; rfl
  · rw [if_neg h, beq_no h]
theorem Tr.get_half {α : Type} (t : Tr α) (n : Nat) : Tr.get t n = if n % 2 = 0 then Tr.get (Tr.left t) (n / 2) else Tr.get (Tr.right t) (n / 2) := by
  cases t with
  | nil => simp [Tr.left, Tr.right, Tr.get_nil]
  | leaf u => simp [Tr.left, Tr.right, Tr.get_leaf]
  | node l r => exact Tr.get_node l r n
theorem Tr.get_set {α : Type} : ∀ (d : Nat) (t : Tr α) (n m : Nat) (v : α), n < 2 ^ d → m < 2 ^ d → Tr.get (Tr.set v d t n) m = if n = m then some v else Tr.get t m
  | 0, t, n, m, v, hn, hm => by
    have : n = m := by simp at hn hm; omega
    rw [if_pos this]; rfl
  | d + 1, t, n, m, v, hn, hm => by
    have hn2 : n / 2 < 2 ^ d := by rw [Nat.pow_succ] at hn; omega
    have hm2 : m / 2 < 2 ^ d := by rw [Nat.pow_succ] at hm; omega
    have hl := Tr.get_set d (Tr.left t) (n / 2) (m / 2) v hn2 hm2
    have hr := Tr.get_set d (Tr.right t) (n / 2) (m / 2) v hn2 hm2
    rw [Tr.set_succ, Tr.get_half t m]
    by_cases a : n % 2 = 0 <;> by_cases b : m % 2 = 0 <;> simp only [Tr.get_node, a, b, if_true, if_false, hl, hr]
    · by_cases h : n / 2 = m / 2
      · have : n = m := by omega
        simp [this]
      · have : n ≠ m := fun e => h (by rw [e])
        simp [h, this]
    · have : n ≠ m := fun e => by omega
      simp [this]
    · have : n ≠ m := fun e => by omega
      simp [this]
    · by_cases h : n / 2 = m / 2
      · have : n = m := by omega
        simp [this]
      · have : n ≠ m := fun e => h (by rw [e])
        simp [h, this]

/-! rows of eight, with ways to read and to set their places: a way is a closed term, reckoned once -/
inductive N8 (α : Type) where
  | mk (a b c d e f g h : α)
structure Gt (α β : Type) where
  get : α → β
structure S2 (α : Type) where
  set : Value → α → α
def pick8 {α : Type} (i : Nat) : N8 α → α
  | .mk a b c d e f g h => match i with
    | 0 => a
    | 1 => b
    | 2 => c
    | 3 => d
    | 4 => e
    | 5 => f
    | 6 => g
    | _ => h
noncomputable def sel {α β : Type} (i : Nat) (k : Gt α β) : Gt (N8 α) β :=
  match i with
  | 0 => ⟨fun s => N8.rec (fun a _ _ _ _ _ _ _ => k.get a) s⟩
  | 1 => ⟨fun s => N8.rec (fun _ a _ _ _ _ _ _ => k.get a) s⟩
  | 2 => ⟨fun s => N8.rec (fun _ _ a _ _ _ _ _ => k.get a) s⟩
  | 3 => ⟨fun s => N8.rec (fun _ _ _ a _ _ _ _ => k.get a) s⟩
  | 4 => ⟨fun s => N8.rec (fun _ _ _ _ a _ _ _ => k.get a) s⟩
  | 5 => ⟨fun s => N8.rec (fun _ _ _ _ _ a _ _ => k.get a) s⟩
  | 6 => ⟨fun s => N8.rec (fun _ _ _ _ _ _ a _ => k.get a) s⟩
  | _ => ⟨fun s => N8.rec (fun _ _ _ _ _ _ _ a => k.get a) s⟩
noncomputable def upd {α : Type} (i : Nat) (k : S2 α) : S2 (N8 α) :=
  match i with
  | 0 => ⟨fun v s => N8.rec (fun a b c d e f g h => N8.mk (k.set v a) b c d e f g h) s⟩
  | 1 => ⟨fun v s => N8.rec (fun a b c d e f g h => N8.mk a (k.set v b) c d e f g h) s⟩
  | 2 => ⟨fun v s => N8.rec (fun a b c d e f g h => N8.mk a b (k.set v c) d e f g h) s⟩
  | 3 => ⟨fun v s => N8.rec (fun a b c d e f g h => N8.mk a b c (k.set v d) e f g h) s⟩
  | 4 => ⟨fun v s => N8.rec (fun a b c d e f g h => N8.mk a b c d (k.set v e) f g h) s⟩
  | 5 => ⟨fun v s => N8.rec (fun a b c d e f g h => N8.mk a b c d e (k.set v f) g h) s⟩
  | 6 => ⟨fun v s => N8.rec (fun a b c d e f g h => N8.mk a b c d e f (k.set v g) h) s⟩
  | _ => ⟨fun v s => N8.rec (fun a b c d e f g h => N8.mk a b c d e f g (k.set v h)) s⟩
theorem lt8 {i : Nat} (h : i < 8) : i = 0 ∨ i = 1 ∨ i = 2 ∨ i = 3 ∨ i = 4 ∨ i = 5 ∨ i = 6 ∨ i = 7 := by omega
theorem sel_eq {α β : Type} {i : Nat} (h : i < 8) (k : Gt α β) (s : N8 α) : (sel i k).get s = k.get (pick8 i s) := by
  cases s
  rcases lt8 h with rfl | rfl | rfl | rfl | rfl | rfl | rfl | rfl <;> rfl
theorem pick_upd {α : Type} {i j : Nat} (hi : i < 8) (hj : j < 8) (k : S2 α) (v : Value) (s : N8 α) : pick8 i ((upd j k).set v s) = if i = j then k.set v (pick8 i s) else pick8 i s := by
  cases s
  rcases lt8 hi with rfl | rfl | rfl | rfl | rfl | rfl | rfl | rfl <;> rcases lt8 hj with rfl | rfl | rfl | rfl | rfl | rfl | rfl | rfl <;> rfl
def Lens {α : Type} (m : Nat) (A : Nat → Gt α Value) (S : Nat → S2 α) : Prop := ∀ i j v s, i < m → j < m → (A i).get ((S j).set v s) = if i = j then v else (A i).get s
noncomputable def accL {α : Type} (m : Nat) (A : Nat → Gt α Value) (t : Nat) : Gt (N8 α) Value := sel (Nat.div t m) (A (Nat.mod t m))
noncomputable def sacL {α : Type} (m : Nat) (S : Nat → S2 α) (t : Nat) : S2 (N8 α) := upd (Nat.div t m) (S (Nat.mod t m))
theorem lens_up {α : Type} {m : Nat} {A : Nat → Gt α Value} {S : Nat → S2 α} (h : Lens m A S) (hm : 0 < m) : Lens (m * 8) (accL m A) (sacL m S) := by
  intro i j v s hi hj
  have hi1 : i / m < 8 := Nat.div_lt_of_lt_mul hi
  have hj1 : j / m < 8 := Nat.div_lt_of_lt_mul hj
  have hi2 : i % m < m := Nat.mod_lt _ hm
  have hj2 : j % m < m := Nat.mod_lt _ hm
  show (sel (i / m) (A (i % m))).get ((upd (j / m) (S (j % m))).set v s) = if i = j then v else (sel (i / m) (A (i % m))).get s
  rw [sel_eq hi1, sel_eq hi1, pick_upd hi1 hj1]
  by_cases e : i / m = j / m
  · rw [if_pos e, h _ _ _ _ hi2 hj2]
    by_cases e2 : i % m = j % m
    · have : i = j := by rw [← Nat.div_add_mod i m, ← Nat.div_add_mod j m, e, e2]
      rw [if_pos e2, if_pos this]
    · rw [if_neg e2, if_neg (fun h => e2 (by rw [h]))]
  · rw [if_neg e, if_neg (fun h => e (by rw [h]))]
noncomputable def accS : Nat → Gt (N8 (N8 (N8 Value))) Value := accL 64 (accL 8 (accL 1 fun _ => ⟨fun v => v⟩))
noncomputable def sacS : Nat → S2 (N8 (N8 (N8 Value))) := sacL 64 (sacL 8 (sacL 1 fun _ => ⟨fun v _ => v⟩))
theorem lensS : Lens 512 accS sacS := by
  have h0 : Lens 1 (fun _ => (⟨fun v => v⟩ : Gt Value Value)) fun _ => ⟨fun v _ => v⟩ := fun i j v s hi hj => by rw [if_pos (by omega)]
  exact lens_up (lens_up (lens_up h0 (by omega)) (by omega)) (by omega)
def n8 {α : Type} (x : α) : N8 α := .mk x x x x x x x x
def zS (u : Value) : N8 (N8 (N8 Value)) := n8 (n8 (n8 u))
theorem pick_n8 {α : Type} {i : Nat} (h : i < 8) (x : α) : pick8 i (n8 x) = x := by
  rcases lt8 h with rfl | rfl | rfl | rfl | rfl | rfl | rfl | rfl <;> rfl
theorem accS_z {t : Nat} (h : t < 512) (u : Value) : (accS t).get (zS u) = u := by
  show (sel (t / 64) (sel (t % 64 / 8) (sel (t % 64 % 8 / 1) ⟨fun v => v⟩))).get (zS u) = u
  rw [sel_eq (by omega), zS, pick_n8 (by omega), sel_eq (by omega), pick_n8 (by omega), sel_eq (by omega), pick_n8 (by omega)]

/-! values: a place is a number of the reckoner's own; a capacity that only the world knows is 'opn' -/
def opn : Nat := 4611686018427387904
structure Loc where
  blk : Nat
  sh : Nat
  size : Nat
  esz : Nat
abbrev Mu := Nat → Option Loc
def scalar : Value → Bool
  | .bool _ | .int .. | .string _ | .nilFunc | .nilIface | .pointer none | .map none | .slice none 0 0 => true
  | _ => false
mutual
inductive VRel (μ : Mu) : Value → Value → Prop
  | sc (v : Value) (h : scalar v = true) : VRel μ v v
  | ptr (k o : Nat) (L : Loc) (h : μ k = some L) : VRel μ (.pointer (some ⟨k, o, none⟩)) (.pointer (some ⟨L.blk, o + L.sh, none⟩))
  | slc (k o n c : Nat) (L : Loc) (h : μ k = some L) (hc : c < opn) : VRel μ (.slice (some ⟨k, o, none⟩) n c) (.slice (some ⟨L.blk, o + L.sh, none⟩) n c)
  | slo (k o n c : Nat) (L : Loc) (h : μ k = some L) (hn : n ≤ c) (hs : o + L.sh + c * L.esz = L.size) : VRel μ (.slice (some ⟨k, o, none⟩) n opn) (.slice (some ⟨L.blk, o + L.sh, none⟩) n c)
  | sle (k o o' : Nat) (L : Loc) (h : μ k = some L) (hs : o + L.sh = L.size) : VRel μ (.slice (some ⟨k, o, none⟩) 0 opn) (.slice (some ⟨L.blk, o', none⟩) 0 0)
  | iface (t : TypeId) (v v' : Value) (h : VRel μ v v') : VRel μ (.iface t v) (.iface t v')
  | agg (l l' : List Value) (h : LRel μ l l') : VRel μ (.agg l.toArray) (.agg l'.toArray)
  | tuple (l l' : List Value) (h : LRel μ l l') : VRel μ (.tuple l.toArray) (.tuple l'.toArray)
  | fn (g : FuncId) (l l' c c' : List Value) (h : LRel μ l l') (hc : LRel μ c c') : VRel μ (.func (.func g) l.toArray c.toArray) (.func (.func g) l'.toArray c'.toArray)
inductive LRel (μ : Mu) : List Value → List Value → Prop
  | nil : LRel μ [] []
  | cons (v v' : Value) (l l' : List Value) (h : VRel μ v v') (hl : LRel μ l l') : LRel μ (v :: l) (v' :: l')
end
def Mu.le (μ μ' : Mu) : Prop := ∀ k L, μ k = some L → μ' k = some L
mutual
theorem VRel.mono {μ μ' : Mu} (hm : μ.le μ') : ∀ {v v' : Value}, VRel μ v v' → VRel μ' v v'
  | _, _, .sc v h => .sc v h
  | _, _, .ptr k o L h => .ptr k o L (hm _ _ h)
  | _, _, .slc k o n c L h hc => .slc k o n c L (hm _ _ h) hc
  | _, _, .slo k o n c L h hn hs => .slo k o n c L (hm _ _ h) hn hs
  | _, _, .sle k o o' L h hs => .sle k o o' L (hm _ _ h) hs
  | _, _, .iface t v v' h => .iface t v v' (h.mono hm)
  | _, _, .agg l l' h => .agg l l' (h.mono hm)
  | _, _, .tuple l l' h => .tuple l l' (h.mono hm)
  | _, _, .fn g l l' c c' h hc => .fn g l l' c c' (h.mono hm) (hc.mono hm)
theorem LRel.mono {μ μ' : Mu} (hm : μ.le μ') : ∀ {l l' : List Value}, LRel μ l l' → LRel μ' l l'
  | _, _, .nil => .nil
  | _, _, .cons v v' l l' h hl => .cons v v' l l' (h.mono hm) (hl.mono hm)
end
theorem LRel.length {μ : Mu} : ∀ {l l' : List Value}, LRel μ l l' → l.length = l'.length
  | _, _, .nil => rfl
  | _, _, .cons v v' l l' h hl => by simp [hl.length]
theorem LRel.append {μ : Mu} : ∀ {l l' m m' : List Value}, LRel μ l l' → LRel μ m m' → LRel μ (l ++ m) (l' ++ m')
  | _, _, _, _, .nil, h => h
  | _, _, _, _, .cons v v' l l' h hl, k => .cons _ _ _ _ h (hl.append k)
theorem LRel.get {μ : Mu} : ∀ {l l' : List Value}, LRel μ l l' → ∀ (i : Nat) (v : Value), l[i]? = some v → ∃ v', l'[i]? = some v' ∧ VRel μ v v'
  | _, _, .nil, i, v, h => by simp at h
  | _, _, .cons u u' l l' h hl, 0, v, e => ⟨u', rfl, by simp at e; rw [← e]; exact h⟩
  | _, _, .cons u u' l l' h hl, i + 1, v, e => by
    obtain ⟨v', h1, h2⟩ := hl.get i v (by simpa using e)
    exact ⟨v', by simpa using h1, h2⟩
theorem vrel_undef (μ : Mu) : VRel μ undef undef := .tuple [] [] .nil
theorem LRel.getD {μ : Mu} : ∀ {l l' : List Value}, LRel μ l l' → ∀ (i : Nat), VRel μ (l.getD i undef) (l'.getD i undef)
  | _, _, .nil, i => by simpa using vrel_undef μ
  | _, _, .cons u u' l l' h hl, 0 => by simpa using h
  | _, _, .cons u u' l l' h hl, i + 1 => by simpa using hl.getD i
theorem LRel.set {μ : Mu} {v v' : Value} (hv : VRel μ v v') : ∀ {l l' : List Value}, LRel μ l l' → ∀ (i : Nat), LRel μ (l.set i v) (l'.set i v')
  | _, _, .nil, i => .nil
  | _, _, .cons u u' l l' h hl, 0 => .cons _ _ _ _ hv hl
  | _, _, .cons u u' l l' h hl, i + 1 => .cons _ _ _ _ h (hl.set hv i)
theorem LRel.take {μ : Mu} : ∀ {l l' : List Value}, LRel μ l l' → ∀ (i : Nat), LRel μ (l.take i) (l'.take i)
  | _, _, .nil, i => by simpa using LRel.nil
  | _, _, .cons u u' l l' h hl, 0 => by simpa using LRel.nil
  | _, _, .cons u u' l l' h hl, i + 1 => by simpa using LRel.cons _ _ _ _ h (hl.take i)
theorem LRel.drop {μ : Mu} : ∀ {l l' : List Value}, LRel μ l l' → ∀ (i : Nat), LRel μ (l.drop i) (l'.drop i)
  | _, _, .nil, i => by simpa using LRel.nil
  | _, _, .cons u u' l l' h hl, 0 => by simpa using LRel.cons _ _ _ _ h hl
  | _, _, .cons u u' l l' h hl, i + 1 => by simpa using hl.drop i
theorem LRel.map {μ : Mu} {α : Type} {f f' : α → Value} : ∀ (l : List α), (∀ x ∈ l, VRel μ (f x) (f' x)) → LRel μ (l.map f) (l.map f')
  | [], _ => .nil
  | x :: l, h => .cons _ _ _ _ (h x (by simp)) (LRel.map l fun y hy => h y (by simp [hy]))
theorem lrel_get {μ : Mu} : ∀ {l l' : List Value}, l.length = l'.length → (∀ (i : Nat) (v v' : Value), l[i]? = some v → l'[i]? = some v' → VRel μ v v') → LRel μ l l'
  | [], [], _, _ => .nil
  | v :: l, v' :: l', h, k => .cons _ _ _ _ (k 0 v v' rfl rfl) (lrel_get (by simpa using h) fun i u u' a b => k (i + 1) u u' (by simpa using a) (by simpa using b))
  | [], _ :: _, h, _ => by simp at h
  | _ :: _, [], h, _ => by simp at h

/-! what holds no place -/
def flatL : List Value → Bool
  | [] => true
  | v :: l => scalar v && flatL l
def flat1 : Value → Bool
  | .agg cs => flatL cs.toList
  | .iface _ v => scalar v
  | v => scalar v
def flatL1 : List Value → Bool
  | [] => true
  | v :: l => flat1 v && flatL1 l
def flat : Value → Bool
  | .tuple cs => flatL1 cs.toList
  | .iface _ v => flat1 v
  | .func (.func _) a c => flatL1 a.toList && flatL1 c.toList
  | v => flat1 v
theorem scalar_eq {μ : Mu} {v v' : Value} (h : scalar v = true) (r : VRel μ v v') : v' = v := by
  cases r <;> first | rfl | (simp [scalar] at h)
theorem flatL_eq {μ : Mu} : ∀ {l l' : List Value}, LRel μ l l' → flatL l = true → l' = l
  | _, _, .nil, _ => rfl
  | _, _, .cons v v' l l' hv hl, h => by
    simp [flatL] at h
    rw [scalar_eq h.1 hv, flatL_eq hl h.2]
theorem flat1_eq {μ : Mu} {v v' : Value} (h : flat1 v = true) (r : VRel μ v v') : v' = v := by
  cases r with
  | agg l l' hl => simp [flat1] at h; rw [flatL_eq hl h]
  | iface t v v' hv => simp [flat1] at h; rw [scalar_eq h hv]
  | sc v hs => rfl
  | _ => simp [flat1, scalar] at h
theorem flatL1_eq {μ : Mu} : ∀ {l l' : List Value}, LRel μ l l' → flatL1 l = true → l' = l
  | _, _, .nil, _ => rfl
  | _, _, .cons v v' l l' hv hl, h => by
    simp [flatL1] at h
    rw [flat1_eq h.1 hv, flatL1_eq hl h.2]
theorem flat_eq {μ : Mu} {v v' : Value} (h : flat v = true) (r : VRel μ v v') : v' = v := by
  cases r with
  | tuple l l' hl => simp [flat] at h; rw [flatL1_eq hl h]
  | agg l l' hl => simp [flat, flat1] at h; rw [flatL_eq hl h]
  | iface t v v' hv => simp [flat] at h; rw [flat1_eq h hv]
  | fn g l l' c c' hl hc => simp [flat] at h; rw [flatL1_eq hl h.1, flatL1_eq hc h.2]
  | sc v hs => rfl
  | _ => simp [flat, flat1, scalar] at h
theorem flatL_rel (μ : Mu) : ∀ {l : List Value}, flatL l = true → LRel μ l l
  | [], _ => .nil
  | v :: l, h => by simp [flatL] at h; exact .cons _ _ _ _ (.sc _ h.1) (flatL_rel μ h.2)
theorem flat1_rel (μ : Mu) {v : Value} (h : flat1 v = true) : VRel μ v v := by
  cases v with
  | agg cs => have := VRel.agg _ _ (flatL_rel μ (l := cs.toList) (by simpa [flat1] using h)); simpa using this
  | iface t v => exact .iface _ _ _ (.sc _ (by simpa [flat1] using h))
  | _ => exact .sc _ (by simpa [flat1] using h)
theorem flatL1_rel (μ : Mu) : ∀ {l : List Value}, flatL1 l = true → LRel μ l l
  | [], _ => .nil
  | v :: l, h => by simp [flatL1] at h; exact .cons _ _ _ _ (flat1_rel μ h.1) (flatL1_rel μ h.2)
theorem flat_rel (μ : Mu) {v : Value} (h : flat v = true) : VRel μ v v := by
  cases v with
  | tuple cs => have := VRel.tuple _ _ (flatL1_rel μ (l := cs.toList) (by simpa [flat] using h)); simpa using this
  | iface t v => exact .iface _ _ _ (flat1_rel μ (by simpa [flat] using h))
  | func g a c =>
    cases g with
    | func g =>
      simp [flat] at h
      have := VRel.fn (μ := μ) g _ _ _ _ (flatL1_rel μ h.1) (flatL1_rel μ h.2)
      simpa using this
    | _ => simp [flat, flat1, scalar] at h
  | _ => exact flat1_rel μ (by simpa [flat] using h)
end Go.Proofs.Ytadamjleglckpaa.ev

/- The reckoner's memory, and when a world bears it. -/
namespace Go.Proofs.Ytadamjleglckpaa.ev
open Go.RowKit
set_option linter.unusedSimpArgs false
set_option linter.unusedVariables false
set_option linter.unusedSectionVars false

structure Blk where
  cells : List Value
  tip : Bool
  esz : Nat
  anc : List Nat
  alive : Bool
structure St where
  heap : Tr Blk
  size : Nat
  wr : Nat
noncomputable def St.getB (σ : St) (k : Nat) : Option Blk :=
  match Nat.ble k 65535 with
  | true => match Tr.get σ.heap k with
    | some B => match B.alive with
      | true => some B
      | false => none
    | none => none
  | false => none
theorem St.getB_eq (σ : St) (k : Nat) : σ.getB k = if k < 65536 then match Tr.get σ.heap k with
    | some B => if B.alive then some B else none
    | none => none
  else none := by
  unfold St.getB
  by_cases h : k < 65536
  · rw [if_pos h, show Nat.ble k 65535 = true from by simp; omega]
    cases Tr.get σ.heap k with
    | none => rfl
    | some B => cases hb : B.alive <;> simp [hb]
  · rw [if_neg h, show Nat.ble k 65535 = false from by rw [Bool.eq_false_iff]; simp; omega]
noncomputable def St.setB : St → Nat → Blk → St
  | ⟨heap, size, wr⟩, k, B => ⟨Tr.set B 16 heap k, size, wr⟩
theorem St.getB_lt {σ : St} {k : Nat} {B : Blk} (h : σ.getB k = some B) : k < 65536 := by
  rw [St.getB_eq] at h; split at h
  · assumption
  · cases h
theorem St.getB_alive {σ : St} {k : Nat} {B : Blk} (h : σ.getB k = some B) : B.alive = true := by
  rw [St.getB_eq] at h
  split at h
  · split at h
    · split at h
      · cases h; assumption
      · cases h
    · cases h
  · cases h
theorem St.getB_setB (σ : St) (k m : Nat) (B : Blk) (hk : k < 65536) : (σ.setB k B).getB m = if m = k then (if B.alive then some B else none) else σ.getB m := by
  rw [St.getB_eq, St.getB_eq]
  unfold St.setB
  by_cases hm : m < 65536
  · rw [if_pos hm, Tr.get_set 16 _ k m B (by simpa using hk) (by simpa using hm)]
    by_cases e : m = k
    · subst e; simp
    · have : k ≠ m := fun h => e h.symm
      simp [e, this, hm]
  · have : m ≠ k := fun e => hm (e ▸ hk)
    simp [hm, this]
noncomputable def killB (σ : St) (k : Nat) : St :=
  match σ.getB k with
  | some B => σ.setB k { B with alive := false }
  | none => σ
noncomputable def killL (σ : St) : List Nat → St
  | [] => σ
  | k :: l => killL (killB σ k) l
theorem getB_killB (σ : St) (k m : Nat) : (killB σ k).getB m = if m = k then none else σ.getB m := by
  unfold killB
  cases h : σ.getB k with
  | none =>
    by_cases e : m = k
    · subst e; simp [h]
    · simp [e]
  | some B => simp [St.getB_setB σ k m _ (St.getB_lt h)]
theorem getB_killL : ∀ (l : List Nat) (σ : St) (m : Nat), (killL σ l).getB m = if m ∈ l then none else σ.getB m
  | [], σ, m => by simp [killL]
  | k :: l, σ, m => by
    rw [killL, getB_killL l, getB_killB]
    by_cases a : m ∈ l
    · simp [a]
    · by_cases b : m = k <;> simp [a, b]
theorem killB_size (σ : St) (k : Nat) : (killB σ k).size = σ.size ∧ (killB σ k).wr = σ.wr := by
  unfold killB; split <;> exact ⟨rfl, rfl⟩
theorem killL_size : ∀ (l : List Nat) (σ : St), (killL σ l).size = σ.size ∧ (killL σ l).wr = σ.wr
  | [], σ => ⟨rfl, rfl⟩
  | k :: l, σ => by
    rw [killL]
    exact ⟨(killL_size l _).1.trans (killB_size σ k).1, (killL_size l _).2.trans (killB_size σ k).2⟩
/-- a block that is written: what shares its memory is read no more -/
noncomputable def St.write (σ : St) (k : Nat) (B : Blk) (cells : List Value) : St :=
  { (killL σ B.anc).setB k ⟨cells, true, B.esz, [], true⟩ with wr := (k :: B.anc).foldl min σ.wr }
theorem foldl_min_le : ∀ (l : List Nat) (a : Nat), l.foldl min a ≤ a ∧ ∀ x ∈ l, l.foldl min a ≤ x
  | [], a => ⟨Nat.le_refl _, by simp⟩
  | y :: l, a => by
    obtain ⟨h1, h2⟩ := foldl_min_le l (min a y)
    refine ⟨by simp only [List.foldl_cons]; omega, fun x hx => ?_⟩
    simp only [List.foldl_cons]
    rcases List.mem_cons.1 hx with rfl | hx
    · omega
    · exact h2 x hx
noncomputable def St.newS : St → Blk → St
  | ⟨heap, size, wr⟩, B => ⟨Tr.set B 16 heap size, Nat.succ size, wr⟩
theorem St.getB_newS (σ : St) (B : Blk) (m : Nat) (hs : σ.size < 65536) : (σ.newS B).getB m = if m = σ.size then (if B.alive then some B else none) else σ.getB m := by
  have := St.getB_setB σ σ.size m B hs
  simpa [St.getB_eq, St.setB, St.newS] using this
theorem St.getB_write (σ : St) (k m : Nat) (B : Blk) (cells : List Value) (hk : k < 65536) (hal : B.alive = true) :
    (σ.write k B cells).getB m = if m = k then some ⟨cells, true, B.esz, [], true⟩ else if m ∈ B.anc then none else σ.getB m := by
  have h1 : (σ.write k B cells).getB m = ((killL σ B.anc).setB k ⟨cells, true, B.esz, [], true⟩).getB m := rfl
  rw [h1, St.getB_setB _ k m _ hk, getB_killL]
  by_cases e : m = k <;> simp [e, hal]

/-- how a block of the reckoner lies in a world -/
def BRel (μ : Mu) (w : World) (B : Blk) (L : Loc) : Prop :=
  ∃ (c : Array Value) (e : TypeId), w.heap[L.blk]? = some (.cells c e (0, 0)) ∧ c.size = L.size ∧ L.esz = B.esz ∧ L.sh + B.cells.length ≤ c.size ∧ LRel μ B.cells ((c.toList.drop L.sh).take B.cells.length)
structure Rel (μ : Mu) (σ : St) (w : World) : Prop where
  wf : ∀ k B, σ.getB k = some B → k < σ.size
  blk : ∀ k B L, σ.getB k = some B → μ k = some L → BRel μ w B L
  apart : ∀ k k' B B' L L', σ.getB k = some B → σ.getB k' = some B' → k ≠ k' → μ k = some L → μ k' = some L' → L.blk = L'.blk →
    (k ∈ B'.anc ∧ B.tip = false ∧ L.sh + B.cells.length ≤ L'.sh + B'.cells.length) ∨ (k' ∈ B.anc ∧ B'.tip = false ∧ L'.sh + B'.cells.length ≤ L.sh + B.cells.length)
theorem BRel.lt {μ : Mu} {w : World} {B : Blk} {L : Loc} (h : BRel μ w B L) : L.blk < w.heap.size := by
  obtain ⟨c, e, h1, _⟩ := h
  rcases Nat.lt_or_ge L.blk w.heap.size with h | h
  · exact h
  · simp [Array.getElem?_eq_none h] at h1
theorem BRel.mono {μ μ' : Mu} {w w' : World} {B : Blk} {L : Loc} (h : BRel μ w B L) (hm : μ.le μ') (hw : w'.heap[L.blk]? = w.heap[L.blk]?) : BRel μ' w' B L := by
  obtain ⟨c, e, h1, h2, h3, h4, h5⟩ := h
  exact ⟨c, e, hw.trans h1, h2, h3, h4, h5.mono hm⟩
theorem BRel.range {μ : Mu} {w : World} {B : Blk} {L : Loc} (h : BRel μ w B L) (o n : Nat) (ho : o + n ≤ B.cells.length) :
    ∃ m : List Value, m.length = n ∧ LRel μ ((B.cells.drop o).take n) m ∧ w.rangeAt L.blk (o + L.sh) m := by
  obtain ⟨c, e, h1, h2, h3, h4, h5⟩ := h
  refine ⟨(c.toList.drop (o + L.sh)).take n, by simp; omega, ?_, fun j v hv => ?_⟩
  · have := (h5.drop o).take n
    rw [List.drop_take, List.drop_drop, List.take_take] at this
    rwa [show min n (B.cells.length - o) = n by omega, show L.sh + o = o + L.sh by omega] at this
  · rw [List.getElem?_take] at hv
    split at hv
    · rw [List.getElem?_drop] at hv
      simp [World.cell?, h1]
      simpa using hv
    · cases hv

/-- what a stretch of a run has done -/
structure Step (μ μ' : Mu) (σ σ' : St) (w w' : World) : Prop where
  ext : μ.le μ'
  dom : ∀ k L, μ' k = some L → μ k = some L ∨ (σ.size ≤ k ∧ k < σ'.size ∧ (w.heap.size ≤ L.blk ∨ ∃ k0 L0, μ k0 = some L0 ∧ L0.blk = L.blk ∧ σ'.wr ≤ k0 ∧ k0 < σ'.size))
  size : σ.size ≤ σ'.size
  wr : σ'.wr ≤ σ.wr
  hs : w.heap.size ≤ w'.heap.size
  os : w'.os = w.os
  tape : w'.tape = w.tape
  output : w'.output = w.output
  frame : ∀ b, b < w.heap.size → (∀ k L, μ k = some L → L.blk = b → k < σ'.wr ∨ σ'.size ≤ k) → w'.heap[b]? = w.heap[b]?
  canon : ∀ k, k < σ.size → k < σ'.wr → σ'.getB k = σ.getB k
theorem Mu.le.refl (μ : Mu) : μ.le μ := fun _ _ h => h
theorem Mu.le.trans {a b c : Mu} (h : a.le b) (k : b.le c) : a.le c := fun i L e => k i L (h i L e)
theorem Step.refl (μ : Mu) (σ : St) (w : World) : Step μ μ σ σ w w :=
  ⟨Mu.le.refl μ, fun k L h => .inl h, Nat.le_refl _, Nat.le_refl _, Nat.le_refl _, rfl, rfl, rfl, fun _ _ _ => rfl, fun _ _ _ => rfl⟩
theorem Step.trans {μ μ1 μ2 : Mu} {σ σ1 σ2 : St} {w w1 w2 : World} (h : Step μ μ1 σ σ1 w w1) (k : Step μ1 μ2 σ1 σ2 w1 w2) : Step μ μ2 σ σ2 w w2 := by
  refine ⟨h.ext.trans k.ext, fun i L hi => ?_, Nat.le_trans h.size k.size, Nat.le_trans k.wr h.wr, Nat.le_trans h.hs k.hs, k.os.trans h.os, k.tape.trans h.tape, k.output.trans h.output, fun b hb hf => ?_, fun i h1 h2 => ?_⟩
  · rcases k.dom i L hi with h1 | ⟨a, b, c⟩
    · rcases h.dom i L h1 with h2 | ⟨a, b, c⟩
      · exact .inl h2
      · refine .inr ⟨a, Nat.lt_of_lt_of_le b k.size, ?_⟩
        rcases c with c | ⟨k0, L0, x, y, z, z'⟩
        · exact .inl c
        · exact .inr ⟨k0, L0, x, y, Nat.le_trans k.wr z, Nat.lt_of_lt_of_le z' k.size⟩
    · refine .inr ⟨Nat.le_trans h.size a, b, ?_⟩
      rcases c with c | ⟨k0, L0, x, y, z, z'⟩
      · exact .inl (Nat.le_trans h.hs c)
      · rcases h.dom k0 L0 x with h2 | ⟨a', b', c'⟩
        · exact .inr ⟨k0, L0, h2, y, z, z'⟩
        · rcases c' with c' | ⟨k1, L1, x', y', z', z''⟩
          · exact .inl (y ▸ c')
          · exact .inr ⟨k1, L1, x', y'.trans y, Nat.le_trans k.wr z', Nat.lt_of_lt_of_le z'' k.size⟩
  · rw [k.frame b (Nat.lt_of_lt_of_le hb h.hs) (fun i L hi hL => ?_)]
    · refine h.frame b hb (fun i L hi hL => ?_)
      have := k.wr
      have := k.size
      rcases hf i L hi hL with a | a
      · exact .inl (by omega)
      · exact .inr (by omega)
    · rcases h.dom i L hi with h2 | ⟨a, b', c⟩
      · exact hf i L h2 hL
      · rcases c with c | ⟨k0, L0, x, y, z, z'⟩
        · omega
        · have := hf k0 L0 x (y.trans hL)
          have := k.wr
          have := k.size
          omega
  · have := k.wr
    have := h.size
    rw [k.canon i (by omega) h2, h.canon i h1 (by omega)]

/-- a new block -/
def Mu.add (μ : Mu) (n : Nat) (L : Loc) : Mu := fun k => if k = n then some L else μ k
theorem Mu.le_add (μ : Mu) (n : Nat) (L : Loc) (h : μ n = none) : μ.le (μ.add n L) := fun k M hk => by
  unfold Mu.add
  by_cases e : k = n
  · subst e; rw [h] at hk; cases hk
  · rw [if_neg e]; exact hk
theorem Mu.add_self (μ : Mu) (n : Nat) (L : Loc) : μ.add n L n = some L := by simp [Mu.add]
theorem Mu.add_cases {μ : Mu} {n k : Nat} {L M : Loc} (h : μ.add n L k = some M) : (k = n ∧ M = L) ∨ (k ≠ n ∧ μ k = some M) := by
  unfold Mu.add at h
  by_cases e : k = n
  · rw [if_pos e] at h; cases h; exact .inl ⟨e, rfl⟩
  · rw [if_neg e] at h; exact .inr ⟨e, h⟩
theorem Rel.alloc {μ : Mu} {σ : St} {w w1 : World} (h : Rel μ σ w) (cells : List Value) (c : Array Value) (e : TypeId) (esz : Nat) (hf : μ σ.size = none) (hlt : σ.size < 65536)
    (hl : cells.length ≤ c.size) (hc : LRel μ cells (c.toList.take cells.length)) (hw : w1.heap = w.heap.push (.cells c e (0, 0))) (ho : w1.os = w.os) (ht : w1.tape = w.tape) (hp : w1.output = w.output) :
    Rel (μ.add σ.size ⟨w.heap.size, 0, c.size, esz⟩) (σ.newS ⟨cells, true, esz, [], true⟩) w1 ∧ Step μ (μ.add σ.size ⟨w.heap.size, 0, c.size, esz⟩) σ (σ.newS ⟨cells, true, esz, [], true⟩) w w1 := by
  have hle := μ.le_add σ.size ⟨w.heap.size, 0, c.size, esz⟩ hf
  have hold : ∀ b, b < w.heap.size → w1.heap[b]? = w.heap[b]? := fun b hb => by rw [hw, Array.getElem?_push, if_neg (by omega)]
  refine ⟨⟨fun k B hk => ?_, fun k B L hk hL => ?_, fun k k' B B' L L' hk hk' hne hL hL' hb => ?_⟩, ?_⟩
  · rw [St.getB_newS σ _ k hlt] at hk
    by_cases e : k = σ.size
    · subst e; simp [St.newS]
    · rw [if_neg e] at hk
      have := h.wf k B hk
      simp [St.newS]; omega
  · rw [St.getB_newS σ _ k hlt] at hk
    rcases Mu.add_cases hL with ⟨rfl, rfl⟩ | ⟨hn, hL⟩
    · simp at hk
      subst hk
      refine ⟨c, e, by rw [hw]; simp, rfl, rfl, by simpa using hl, by simpa using hc.mono hle⟩
    · rw [if_neg hn] at hk
      have hB := h.blk k B L hk hL
      exact hB.mono hle (hold _ hB.lt)
  · rw [St.getB_newS σ _ _ hlt] at hk hk'
    rcases Mu.add_cases hL with ⟨rfl, rfl⟩ | ⟨hn, hL⟩
    · rcases Mu.add_cases hL' with ⟨rfl, rfl⟩ | ⟨hn', hL'⟩
      · exact absurd rfl hne
      · rw [if_neg hn'] at hk'
        have := (h.blk _ _ _ hk' hL').lt
        simp at hb; omega
    · rw [if_neg hn] at hk
      rcases Mu.add_cases hL' with ⟨rfl, rfl⟩ | ⟨hn', hL'⟩
      · have := (h.blk _ _ _ hk hL).lt
        simp at hb; omega
      · rw [if_neg hn'] at hk'
        exact h.apart k k' B B' L L' hk hk' hne hL hL' hb
  · refine ⟨hle, fun k L hL => ?_, by simp [St.newS], by simp [St.newS], by rw [hw]; simp, ho, ht, hp, fun b hb _ => hold b hb, fun k hk _ => by rw [St.getB_newS σ _ k hlt, if_neg (by omega)]⟩
    rcases Mu.add_cases hL with ⟨rfl, rfl⟩ | ⟨hn, hL⟩
    · exact .inr ⟨Nat.le_refl _, by simp [St.newS], .inl (Nat.le_refl _)⟩
    · exact .inl hL
/-- a block is written -/
theorem Rel.write {μ : Mu} {σ : St} {w : World} (h : Rel μ σ w) {k : Nat} {B : Blk} {L : Loc} (hB : σ.getB k = some B) (hL : μ k = some L) (ht : B.tip = true) (cells : List Value) (hlen : cells.length = B.cells.length)
    {c c' : Array Value} {e : TypeId} (hc : w.heap[L.blk]? = some (.cells c e (0, 0))) (hs : c'.size = c.size) (hr : LRel μ cells ((c'.toList.drop L.sh).take cells.length)) :
    Rel μ (σ.write k B cells) (w.setRow L.blk c') ∧ Step μ μ σ (σ.write k B cells) w (w.setRow L.blk c') := by
  have hklt := St.getB_lt hB
  have hal := St.getB_alive hB
  have hBr := h.blk k B L hB hL
  have hnew := setRow_heap w L.blk c c' e (0, 0) hc
  have hother : ∀ b, b ≠ L.blk → (w.setRow L.blk c').heap[b]? = w.heap[b]? := fun b hb => setRow_other w L.blk b c' hb
  have far : ∀ k' B' L', σ.getB k' = some B' → μ k' = some L' → k' ≠ k → k' ∉ B.anc → L'.blk ≠ L.blk := fun k' B' L' h1 h2 h3 h4 h5 => by
    rcases h.apart k' k B' B L' L h1 hB h3 h2 hL h5 with ⟨a, b, _⟩ | ⟨a, b, _⟩
    · exact h4 a
    · rw [ht] at b; cases b
  have hsize : (σ.write k B cells).size = σ.size := by simp [St.write, St.setB, (killL_size B.anc σ).1]
  have hwr := foldl_min_le (k :: B.anc) σ.wr
  refine ⟨⟨fun k' B' hk' => ?_, fun k' B' L' hk' hL' => ?_, fun k1 k2 B1 B2 L1 L2 hk1 hk2 hne hL1 hL2 hb => ?_⟩, ?_⟩
  · rw [St.getB_write σ k k' B cells hklt hal] at hk'
    rw [hsize]
    by_cases e1 : k' = k
    · subst e1; exact h.wf k' B hB
    · rw [if_neg e1] at hk'
      by_cases e2 : k' ∈ B.anc
      · rw [if_pos e2] at hk'; cases hk'
      · rw [if_neg e2] at hk'; exact h.wf k' B' hk'
  · rw [St.getB_write σ k k' B cells hklt hal] at hk'
    by_cases e1 : k' = k
    · subst e1
      rw [if_pos rfl] at hk'
      cases hk'
      rw [hL] at hL'
      cases hL'
      obtain ⟨c0, e0, g1, g2, g3, g4, g5⟩ := hBr
      rw [hc] at g1
      cases g1
      exact ⟨c', e, hnew, by rw [hs]; exact g2, g3, by rw [hs]; simpa [hlen] using g4, hr⟩
    · rw [if_neg e1] at hk'
      by_cases e2 : k' ∈ B.anc
      · rw [if_pos e2] at hk'; cases hk'
      · rw [if_neg e2] at hk'
        exact (h.blk k' B' L' hk' hL').mono (Mu.le.refl μ) (hother _ (far k' B' L' hk' hL' e1 e2))
  · rw [St.getB_write σ k _ B cells hklt hal] at hk1 hk2
    by_cases a1 : k1 = k
    · subst a1
      rw [hL] at hL1; cases hL1
      rw [if_neg (fun e => hne e.symm)] at hk2
      by_cases e2 : k2 ∈ B.anc
      · rw [if_pos e2] at hk2; cases hk2
      · rw [if_neg e2] at hk2
        exact absurd hb.symm (far k2 B2 L2 hk2 hL2 (fun e => hne e.symm) e2)
    · rw [if_neg a1] at hk1
      by_cases e1 : k1 ∈ B.anc
      · rw [if_pos e1] at hk1; cases hk1
      · rw [if_neg e1] at hk1
        by_cases a2 : k2 = k
        · subst a2
          rw [hL] at hL2; cases hL2
          exact absurd hb (far k1 B1 L1 hk1 hL1 a1 e1)
        · rw [if_neg a2] at hk2
          by_cases e2 : k2 ∈ B.anc
          · rw [if_pos e2] at hk2; cases hk2
          · rw [if_neg e2] at hk2
            exact h.apart k1 k2 B1 B2 L1 L2 hk1 hk2 hne hL1 hL2 hb
  · refine ⟨Mu.le.refl μ, fun _ _ h => .inl h, ?_, hwr.1, by simp, by simp, by simp, by simp, fun b hb hf => ?_, fun m hm hw => ?_⟩
    · rw [hsize]; exact Nat.le_refl _
    · refine hother b fun e => ?_
      subst e
      have h1 := hf k L hL rfl
      have h2 := hwr.2 k (by simp)
      have h3 := h.wf k B hB
      rw [hsize] at h1
      have h4 : (σ.write k B cells).wr = (k :: B.anc).foldl min σ.wr := rfl
      omega
    · rw [St.getB_write σ k m B cells hklt hal]
      have h4 : (σ.write k B cells).wr = (k :: B.anc).foldl min σ.wr := rfl
      have e1 : m ≠ k := fun e => by have := hwr.2 k (by simp); omega
      have e2 : m ∉ B.anc := fun e => by have := hwr.2 m (by simp [e]); omega
      simp [e1, e2]
/-- a row is continued: in its own memory or in new memory; who reads the row as it was may go on doing so -/
noncomputable def St.cont (σ : St) (k : Nat) (B : Blk) (cells : List Value) : St :=
  { (σ.setB k { B with tip := false }).newS ⟨cells, true, B.esz, k :: B.anc, true⟩ with wr := min σ.wr k }
theorem St.getB_cont (σ : St) (k m : Nat) (B : Blk) (cells : List Value) (hB : σ.getB k = some B) (hs : σ.size < 65536) :
    (σ.cont k B cells).getB m = if m = σ.size then some ⟨cells, true, B.esz, k :: B.anc, true⟩ else if m = k then some { B with tip := false } else σ.getB m := by
  have h1 : (σ.cont k B cells).getB m = ((σ.setB k { B with tip := false }).newS ⟨cells, true, B.esz, k :: B.anc, true⟩).getB m := rfl
  have hsz : (σ.setB k { B with tip := false }).size = σ.size := rfl
  rw [h1, St.getB_newS _ _ m (by rw [hsz]; exact hs), hsz, St.getB_setB σ k m _ (St.getB_lt hB)]
  simp [St.getB_alive hB]
theorem cont_apart {μ : Mu} {σ : St} {w : World} (h : Rel μ σ w) {k : Nat} {B : Blk} (hB : σ.getB k = some B) (ht : B.tip = true) {k1 k2 : Nat} {B1 B2 : Blk} {L1 L2 : Loc}
    (hk1 : (if k1 = k then some { B with tip := false } else σ.getB k1) = some B1) (hk2 : (if k2 = k then some { B with tip := false } else σ.getB k2) = some B2) (hne : k1 ≠ k2) (hL1 : μ k1 = some L1) (hL2 : μ k2 = some L2) (hb : L1.blk = L2.blk) :
    (k1 ∈ B2.anc ∧ B1.tip = false ∧ L1.sh + B1.cells.length ≤ L2.sh + B2.cells.length) ∨ (k2 ∈ B1.anc ∧ B2.tip = false ∧ L2.sh + B2.cells.length ≤ L1.sh + B1.cells.length) := by
  by_cases a1 : k1 = k
  · subst a1
    rw [if_pos rfl] at hk1; cases hk1
    rw [if_neg (fun e => hne e.symm)] at hk2
    rcases h.apart k1 k2 B B2 L1 L2 hB hk2 hne hL1 hL2 hb with ⟨_, b, _⟩ | ⟨a, b, c⟩
    · rw [ht] at b; cases b
    · exact .inr ⟨a, b, c⟩
  · rw [if_neg a1] at hk1
    by_cases a2 : k2 = k
    · subst a2
      rw [if_pos rfl] at hk2; cases hk2
      rcases h.apart k1 k2 B1 B L1 L2 hk1 hB hne hL1 hL2 hb with ⟨a, b, c⟩ | ⟨_, b, _⟩
      · exact .inl ⟨a, b, c⟩
      · rw [ht] at b; cases b
    · rw [if_neg a2] at hk2
      exact h.apart k1 k2 B1 B2 L1 L2 hk1 hk2 hne hL1 hL2 hb
theorem Rel.cont_in {μ : Mu} {σ : St} {w : World} (h : Rel μ σ w) {k : Nat} {B : Blk} {L : Loc} (hB : σ.getB k = some B) (hL : μ k = some L) (ht : B.tip = true) (hf : μ σ.size = none) (hlt : σ.size < 65536) (o : Nat) (ho : o ≤ B.cells.length)
    (cells : List Value) (hlen : B.cells.length ≤ o + cells.length) {c c' : Array Value} {e : TypeId} (hc : w.heap[L.blk]? = some (.cells c e (0, 0))) (hs : c'.size = c.size) (hin : L.sh + o + cells.length ≤ c.size)
    (hsame : ∀ i, i < L.sh + B.cells.length → c'[i]? = c[i]?) (hr : LRel μ cells ((c'.toList.drop (L.sh + o)).take cells.length)) :
    Rel (μ.add σ.size ⟨L.blk, L.sh + o, L.size, L.esz⟩) (σ.cont k B cells) (w.setRow L.blk c') ∧ Step μ (μ.add σ.size ⟨L.blk, L.sh + o, L.size, L.esz⟩) σ (σ.cont k B cells) w (w.setRow L.blk c') := by
  have hle := μ.le_add σ.size ⟨L.blk, L.sh + o, L.size, L.esz⟩ hf
  have hBr := h.blk k B L hB hL
  have hkn : k ≠ σ.size := fun e => by rw [e, hf] at hL; cases hL
  have hnew := setRow_heap w L.blk c c' e (0, 0) hc
  have hother : ∀ b, b ≠ L.blk → (w.setRow L.blk c').heap[b]? = w.heap[b]? := fun b hb => setRow_other w L.blk b c' hb
  have keep : ∀ (B' : Blk) (L' : Loc), BRel μ w B' L' → L'.blk = L.blk → L'.sh + B'.cells.length ≤ L.sh + B.cells.length → BRel (μ.add σ.size ⟨L.blk, L.sh + o, L.size, L.esz⟩) (w.setRow L.blk c') B' L' := by
    intro B' L' hB' hb hsh
    obtain ⟨c0, e0, g1, g2, g3, g4, g5⟩ := hB'
    rw [hb, hc] at g1
    cases g1
    refine ⟨c', e, by rw [hb]; exact hnew, by rw [hs]; exact g2, g3, by rw [hs]; exact g4, ?_⟩
    have : (c'.toList.drop L'.sh).take B'.cells.length = (c.toList.drop L'.sh).take B'.cells.length := by
      apply List.ext_getElem?
      intro i
      rw [List.getElem?_take, List.getElem?_take]
      split
      · rw [List.getElem?_drop, List.getElem?_drop, Array.getElem?_toList, Array.getElem?_toList]
        exact hsame _ (by omega)
      · rfl
    rw [this]
    exact g5.mono hle
  have g4 : L.sh + B.cells.length ≤ c.size ∧ c.size = L.size ∧ L.esz = B.esz := by
    obtain ⟨c0, e0, g1, g2, g3, g4, g5⟩ := hBr
    rw [hc] at g1
    cases g1
    exact ⟨g4, g2, g3⟩
  have hsize : (σ.cont k B cells).size = σ.size + 1 := by simp [St.cont, St.newS, St.setB]
  have hklt := h.wf k B hB
  have hcan : ∀ m, m < σ.size → m < (σ.cont k B cells).wr → (σ.cont k B cells).getB m = σ.getB m := fun m h1 h2 => by
    have : (σ.cont k B cells).wr = min σ.wr k := rfl
    rw [St.getB_cont σ k m B cells hB hlt, if_neg (by omega), if_neg (by omega)]
  refine ⟨⟨fun k' B' hk' => ?_, fun k' B' L' hk' hL' => ?_, fun k1 k2 B1 B2 L1 L2 hk1 hk2 hne hL1 hL2 hb => ?_⟩, ?_⟩
  · rw [St.getB_cont σ k k' B cells hB hlt] at hk'
    rw [hsize]
    by_cases e0 : k' = σ.size
    · omega
    · rw [if_neg e0] at hk'
      by_cases e1 : k' = k
      · omega
      · rw [if_neg e1] at hk'; have := h.wf k' B' hk'; omega
  · rw [St.getB_cont σ k k' B cells hB hlt] at hk'
    rcases Mu.add_cases hL' with ⟨rfl, rfl⟩ | ⟨hn, hL'⟩
    · rw [if_pos rfl] at hk'
      cases hk'
      exact ⟨c', e, hnew, by rw [hs]; exact g4.2.1, g4.2.2, by rw [hs]; exact hin, hr.mono hle⟩
    · rw [if_neg hn] at hk'
      by_cases e1 : k' = k
      · subst e1
        rw [if_pos rfl] at hk'
        cases hk'
        rw [hL] at hL'
        cases hL'
        exact keep { B with tip := false } L (by obtain ⟨c0, e0, g⟩ := hBr; exact ⟨c0, e0, g⟩) rfl (Nat.le_refl _)
      · rw [if_neg e1] at hk'
        by_cases e2 : L'.blk = L.blk
        · rcases h.apart k' k B' B L' L hk' hB e1 hL' hL e2 with ⟨_, _, a⟩ | ⟨_, b, _⟩
          · exact keep B' L' (h.blk k' B' L' hk' hL') e2 a
          · rw [ht] at b; cases b
        · exact (h.blk k' B' L' hk' hL').mono hle (hother _ e2)
  · rw [St.getB_cont σ k _ B cells hB hlt] at hk1 hk2
    have main : ∀ k2 B2 L2, (if k2 = k then some { B with tip := false } else σ.getB k2) = some B2 → μ k2 = some L2 → L2.blk = L.blk → k2 ∈ k :: B.anc ∧ B2.tip = false ∧ L2.sh + B2.cells.length ≤ L.sh + o + cells.length := by
      intro k2 B2 L2 h1 h3 h4
      by_cases e1 : k2 = k
      · subst e1
        rw [if_pos rfl] at h1; cases h1
        rw [hL] at h3; cases h3
        exact ⟨by simp, rfl, by simp; omega⟩
      · rw [if_neg e1] at h1
        rcases h.apart k2 k B2 B L2 L h1 hB e1 h3 hL h4 with ⟨a, b, c⟩ | ⟨_, b, _⟩
        · exact ⟨by simp [a], b, by omega⟩
        · rw [ht] at b; cases b
    rcases Mu.add_cases hL1 with ⟨rfl, rfl⟩ | ⟨n1, hL1⟩
    · rw [if_pos rfl] at hk1; cases hk1
      rcases Mu.add_cases hL2 with ⟨rfl, rfl⟩ | ⟨n2, hL2⟩
      · exact absurd rfl hne
      · rw [if_neg n2] at hk2
        exact .inr (main k2 B2 L2 hk2 hL2 hb.symm)
    · rw [if_neg n1] at hk1
      rcases Mu.add_cases hL2 with ⟨rfl, rfl⟩ | ⟨n2, hL2⟩
      · rw [if_pos rfl] at hk2; cases hk2
        exact .inl (main k1 B1 L1 hk1 hL1 hb)
      · rw [if_neg n2] at hk2
        exact cont_apart h hB ht hk1 hk2 hne hL1 hL2 hb
  · refine ⟨hle, fun k' L' hL' => ?_, ?_, ?_, by simp, by simp, by simp, by simp, fun b hb hf' => ?_, hcan⟩
    · rcases Mu.add_cases hL' with ⟨rfl, rfl⟩ | ⟨hn, hL'⟩
      · exact .inr ⟨Nat.le_refl _, by simp [St.cont, St.newS, St.setB], .inr ⟨k, L, hL, rfl, by simp only [St.cont]; omega, by rw [hsize]; omega⟩⟩
      · exact .inl hL'
    · simp [St.cont, St.newS, St.setB]
    · simp only [St.cont]; omega
    · refine hother b fun e => ?_
      subst e
      have h1 := hf' k L hL rfl
      rw [hsize] at h1
      have : (σ.cont k B cells).wr = min σ.wr k := rfl
      omega
theorem Rel.cont_new {μ : Mu} {σ : St} {w w1 : World} (h : Rel μ σ w) {k : Nat} {B : Blk} {L : Loc} (hB : σ.getB k = some B) (hL : μ k = some L) (ht : B.tip = true) (hf : μ σ.size = none) (hlt : σ.size < 65536)
    (cells : List Value) (c : Array Value) (e : TypeId) (hl : cells.length ≤ c.size) (hc : LRel μ cells (c.toList.take cells.length)) (hw : w1.heap = w.heap.push (.cells c e (0, 0))) (hos : w1.os = w.os) (htp : w1.tape = w.tape) (hp : w1.output = w.output) :
    Rel (μ.add σ.size ⟨w.heap.size, 0, c.size, B.esz⟩) (σ.cont k B cells) w1 ∧ Step μ (μ.add σ.size ⟨w.heap.size, 0, c.size, B.esz⟩) σ (σ.cont k B cells) w w1 := by
  have hle := μ.le_add σ.size ⟨w.heap.size, 0, c.size, B.esz⟩ hf
  have hBr := h.blk k B L hB hL
  have hold : ∀ b, b < w.heap.size → w1.heap[b]? = w.heap[b]? := fun b hb => by rw [hw, Array.getElem?_push, if_neg (by omega)]
  have old : ∀ k2 B2 L2, (if k2 = k then some { B with tip := false } else σ.getB k2) = some B2 → μ k2 = some L2 → BRel μ w B2 L2 := by
    intro k2 B2 L2 h1 h2
    by_cases e1 : k2 = k
    · subst e1
      rw [if_pos rfl] at h1; cases h1
      rw [hL] at h2; cases h2
      obtain ⟨c0, e0, g⟩ := hBr; exact ⟨c0, e0, g⟩
    · rw [if_neg e1] at h1
      exact h.blk k2 B2 L2 h1 h2
  have hsize : (σ.cont k B cells).size = σ.size + 1 := by simp [St.cont, St.newS, St.setB]
  have hklt := h.wf k B hB
  have hcan : ∀ m, m < σ.size → m < (σ.cont k B cells).wr → (σ.cont k B cells).getB m = σ.getB m := fun m h1 h2 => by
    have : (σ.cont k B cells).wr = min σ.wr k := rfl
    rw [St.getB_cont σ k m B cells hB hlt, if_neg (by omega), if_neg (by omega)]
  refine ⟨⟨fun k' B' hk' => ?_, fun k' B' L' hk' hL' => ?_, fun k1 k2 B1 B2 L1 L2 hk1 hk2 hne hL1 hL2 hb => ?_⟩, ?_⟩
  · rw [St.getB_cont σ k k' B cells hB hlt] at hk'
    rw [hsize]
    by_cases e0 : k' = σ.size
    · omega
    · rw [if_neg e0] at hk'
      by_cases e1 : k' = k
      · omega
      · rw [if_neg e1] at hk'; have := h.wf k' B' hk'; omega
  · rw [St.getB_cont σ k k' B cells hB hlt] at hk'
    rcases Mu.add_cases hL' with ⟨rfl, rfl⟩ | ⟨hn, hL'⟩
    · rw [if_pos rfl] at hk'
      cases hk'
      exact ⟨c, e, by rw [hw]; simp, rfl, rfl, by simpa using hl, by simpa using hc.mono hle⟩
    · rw [if_neg hn] at hk'
      have := old k' B' L' hk' hL'
      exact this.mono hle (hold _ this.lt)
  · rw [St.getB_cont σ k _ B cells hB hlt] at hk1 hk2
    rcases Mu.add_cases hL1 with ⟨rfl, rfl⟩ | ⟨n1, hL1⟩
    · rcases Mu.add_cases hL2 with ⟨rfl, rfl⟩ | ⟨n2, hL2⟩
      · exact absurd rfl hne
      · rw [if_neg n2] at hk2
        have := (old _ _ _ hk2 hL2).lt
        simp at hb; omega
    · rw [if_neg n1] at hk1
      rcases Mu.add_cases hL2 with ⟨rfl, rfl⟩ | ⟨n2, hL2⟩
      · have := (old _ _ _ hk1 hL1).lt
        simp at hb; omega
      · rw [if_neg n2] at hk2
        exact cont_apart h hB ht hk1 hk2 hne hL1 hL2 hb
  · refine ⟨hle, fun k' L' hL' => ?_, ?_, ?_, by rw [hw]; simp, hos, htp, hp, fun b hb hf' => hold b hb, hcan⟩
    · rcases Mu.add_cases hL' with ⟨rfl, rfl⟩ | ⟨hn, hL'⟩
      · exact .inr ⟨Nat.le_refl _, by simp [St.cont, St.newS, St.setB], .inl (Nat.le_refl _)⟩
      · exact .inl hL'
    · simp [St.cont, St.newS, St.setB]
    · simp only [St.cont]; omega
end Go.Proofs.Ytadamjleglckpaa.ev

/- The reckoner's operations, and that the model's do as they do. -/
namespace Go.Proofs.Ytadamjleglckpaa.ev
noncomputable section
open Go.RowKit
set_option linter.unusedSimpArgs false
set_option linter.unusedVariables false
set_option linter.unusedSectionVars false

/-- a list, its elements laid side by side -/
def forceL {β : Type} : List Value → (List Value → β) → β
  | [], k => k []
  | v :: l, k => forceL l fun l' => k (v :: l')
theorem forceL_eq {β : Type} : ∀ (l : List Value) (k : List Value → β), forceL l k = k l
  | [], k => rfl
  | v :: l, k => by rw [forceL, forceL_eq l]
def pureRun {α : Type} (P : Program) : Sem α → Option α
  | .pure a => some a
  | .program k => pureRun P (k P)
  | .mark _ k => pureRun P k
  | _ => none
theorem pureRun_run {α : Type} {P : Program} : ∀ {s : Sem α} {a : α}, pureRun P s = some a → ∀ w, s.run P w = .ok a w
  | .pure a, b, h, w => by simp [pureRun] at h; subst h; rfl
  | .program k, b, h, w => by
    simp only [pureRun] at h
    show (k P).run P w = _
    exact pureRun_run h w
  | .mark m k, b, h, w => by
    simp only [pureRun] at h
    show k.run P w = _
    exact pureRun_run h w
  | .load .., _, h, _ | .store .., _, h, _ | .new .., _, h, _ | .shape .., _, h, _ | .freeze .., _, h, _ | .frozen .., _, h, _ | .getObj .., _, h, _ | .setObj .., _, h, _ | .choose .., _, h, _ | .sys .., _, h, _ | .halt .., _, h, _ => by simp [pureRun] at h

/-- the slots of a frame -/
structure Ts where
  n : Nat
  tr : N8 (N8 (N8 Value))
def Ts.d (_ : Ts) : Nat := 9
def getT (ts : Ts) (t : Nat) : Value := Bool.rec undef ((accS t).get ts.tr) (Nat.ble (Nat.succ t) ts.n)
def setT (ts : Ts) (t : Nat) (v : Value) : Ts := Ts.rec (motive := fun _ => Ts) (fun n tr => Bool.rec ⟨n, tr⟩ ⟨n, (sacS t).set v tr⟩ (Nat.ble (Nat.succ t) n)) ts
theorem blt_true {a b : Nat} (h : a < b) : Nat.blt a b = true := by simp [Nat.blt]; omega
theorem blt_false {a b : Nat} (h : ¬ a < b) : Nat.blt a b = false := by rw [Bool.eq_false_iff]; simp [Nat.blt]; omega
theorem ble_true {a b : Nat} (h : a < b) : Nat.ble (Nat.succ a) b = true := by simp; omega
theorem ble_false {a b : Nat} (h : ¬ a < b) : Nat.ble (Nat.succ a) b = false := by rw [Bool.eq_false_iff]; simp; omega
theorem getT_lt {ts : Ts} {t : Nat} (h : t < ts.n) : getT ts t = (accS t).get ts.tr := by unfold getT; rw [ble_true h]
theorem getT_ge {ts : Ts} {t : Nat} (h : ¬ t < ts.n) : getT ts t = undef := by unfold getT; rw [ble_false h]
theorem setT_lt {ts : Ts} {t : Nat} (h : t < ts.n) (v : Value) : setT ts t v = ⟨ts.n, (sacS t).set v ts.tr⟩ := by
  cases ts with
  | mk n tr => show Bool.rec (motive := fun _ => Ts) _ _ (Nat.ble (Nat.succ t) n) = _; rw [ble_true h]
theorem setT_ge {ts : Ts} {t : Nat} (h : ¬ t < ts.n) (v : Value) : setT ts t v = ts := by
  cases ts with
  | mk n tr => show Bool.rec (motive := fun _ => Ts) _ _ (Nat.ble (Nat.succ t) n) = _; rw [ble_false h]
theorem getT_setT (ts : Ts) (hd : ts.n ≤ 2 ^ ts.d) (t u : Nat) (v : Value) (ht : t < ts.n) : getT (setT ts t v) u = if u = t then v else getT ts u := by
  have hd : ts.n ≤ 512 := hd
  rw [setT_lt ht]
  by_cases hu : u < ts.n
  · rw [getT_lt (ts := ts) hu]
    refine (getT_lt (ts := ⟨ts.n, (sacS t).set v ts.tr⟩) hu).trans ?_
    exact lensS u t v ts.tr (by omega) (by omega)
  · rw [getT_ge (ts := ts) hu, if_neg (by omega)]
    exact getT_ge (ts := ⟨ts.n, (sacS t).set v ts.tr⟩) hu
theorem setT_n (ts : Ts) (t : Nat) (v : Value) : (setT ts t v).n = ts.n ∧ (setT ts t v).d = ts.d := by
  refine ⟨?_, rfl⟩
  by_cases h : t < ts.n
  · rw [setT_lt h]
  · rw [setT_ge h]
def slots0 (n : Nat) : Ts := Nat.rec (motive := fun _ => Ts) ⟨0, zS undef⟩ (fun p _ => ⟨Nat.succ p, zS undef⟩) n
theorem slots0_eq (n : Nat) : slots0 n = ⟨n, zS undef⟩ := by cases n <;> rfl
theorem getT_slots0 {n : Nat} (hn : n ≤ 512) (t : Nat) : getT (slots0 n) t = undef := by
  rw [slots0_eq]
  by_cases h : t < n
  · rw [getT_lt (ts := ⟨n, zS undef⟩) h]; exact accS_z (by omega) _
  · exact getT_ge (ts := ⟨n, zS undef⟩) h
def evo (ts : Ts) : Operand → Option Value
  | .tmp t => some (getT ts t)
  | .const v => match flat v with
    | true => some v
    | false => none
  | .func f => some (.func (.func f) #[] #[])
  | .global _ => none
structure TRel (μ : Mu) (ts : Ts) (a : Act) : Prop where
  n : a.tmps.size = ts.n
  d : ts.n ≤ 2 ^ ts.d
  rel : ∀ t, t < ts.n → VRel μ (getT ts t) (a.tmps.getD t undef)
  df : a.defers = []
theorem TRel.get {μ : Mu} {ts : Ts} {a : Act} (h : TRel μ ts a) (t : Nat) : VRel μ (getT ts t) (a.tmps.getD t undef) := by
  by_cases ht : t < ts.n
  · exact h.rel t ht
  · have e1 : getT ts t = undef := getT_ge ht
    have e2 : a.tmps.getD t undef = undef := by
      have := h.n
      simp [Array.getD, show ¬ t < a.tmps.size by omega]
    rw [e1, e2]
    exact vrel_undef μ
theorem evo_rel {μ : Mu} {ts : Ts} {a : Act} (h : TRel μ ts a) {x : Operand} {v : Value} (hv : evo ts x = some v) : VRel μ v (a.eval x) := by
  cases x with
  | tmp t =>
    simp only [evo, Option.some.injEq] at hv
    subst hv
    exact h.get t
  | const u =>
    simp only [evo] at hv
    split at hv
    · simp only [Option.some.injEq] at hv; subst hv; exact flat_rel μ (by assumption)
    · cases hv
  | func f => simp only [evo, Option.some.injEq] at hv; subst hv; exact flat_rel μ (by simp [flat, flatL1])
  | global g => simp [evo] at hv
def putV (ts : Ts) (dst : Option Tmp) (v : Value) : Ts := match dst with | some d => setT ts d v | none => ts
theorem TRel.putV {μ : Mu} {ts : Ts} {a : Act} (h : TRel μ ts a) {v v' : Value} (hv : VRel μ v v') (dst : Option Tmp) :
    TRel μ (putV ts dst v) (a.put dst v') := by
  cases dst with
  | none => exact h
  | some d =>
    have hn := setT_n ts d v
    refine ⟨?_, ?_, fun t ht => ?_, h.df⟩
    · simp only [ev.putV, Act.put, Array.size_setIfInBounds, hn.1]; exact h.n
    · simp only [ev.putV, hn.1, hn.2]; exact h.d
    · simp only [ev.putV, hn.1] at ht
      by_cases hd : d < ts.n
      · simp only [ev.putV, Act.put]
        rw [getT_setT ts h.d d t v hd]
        by_cases e : t = d
        · subst e
          rw [if_pos rfl]
          have := h.n
          simp [Array.getD, show t < a.tmps.size by omega]
          exact hv
        · rw [if_neg e]
          have := h.rel t ht
          have h2 : (a.tmps.setIfInBounds d v').getD t undef = a.tmps.getD t undef := by
            simp only [Array.getD_eq_getD_getElem?]
            rw [Array.getElem?_setIfInBounds_ne (fun e' => e e'.symm)]
          rw [h2]
          exact this
      · have e1 : setT ts d v = ts := setT_ge hd v
        have hn' : ¬ d < a.tmps.size := by rw [h.n]; exact hd
        have e2 : a.tmps.setIfInBounds d v' = a.tmps := by
          unfold Array.setIfInBounds; rw [dif_neg hn']
        simp only [ev.putV, Act.put, e1, e2]
        exact h.rel t ht
theorem TRel.mono {μ μ' : Mu} {ts : Ts} {a : Act} (h : TRel μ ts a) (hm : μ.le μ') : TRel μ' ts a := ⟨h.n, h.d, fun t ht => (h.rel t ht).mono hm, h.df⟩
/-- what an operation does: a value, a new memory -/
def Does (P : Program) (μ : Mu) (σ : St) (w : World) (ρ : Operand → Value) (o : Oper) (r : Value) (σ' : St) : Prop :=
  ∃ μ' r' w' n, (execOp ρ o).run P w = .ok n w' ∧ (n = .value r' ∨ (n = .skip ∧ r' = undef)) ∧ VRel μ' r r' ∧ Rel μ' σ' w' ∧ Step μ μ' σ σ' w w'

/-! operations on what holds no place -/
def allFlat (ts : Ts) : List Operand → Bool
  | [] => true
  | x :: l => (match evo ts x with | some v => flat v | none => false) && allFlat ts l
def isSelect : Op → Bool
  | .select .. => true
  | _ => false
def pureOp (P : Program) (ts : Ts) (o : Oper) : Option Value :=
  if allFlat ts o.op.operands.toList && !isSelect o.op then
    match pureRun P (execOp (fun x => (evo ts x).getD undef) o) with
    | some (.value r) => if flat r then some r else none
    | _ => none
  else none
theorem allFlat_eq {μ : Mu} {ts : Ts} {a : Act} (h : TRel μ ts a) : ∀ (l : List Operand), allFlat ts l = true → ∀ x ∈ l, a.eval x = (evo ts x).getD undef
  | [], _, x, hx => by simp at hx
  | y :: l, hl, x, hx => by
    simp only [allFlat, Bool.and_eq_true] at hl
    rcases List.mem_cons.1 hx with rfl | hx
    · cases hv : evo ts x with
      | none => simp [hv] at hl
      | some v =>
        simp only [hv] at hl
        simpa [hv] using flat_eq hl.1 (evo_rel h hv)
    · exact allFlat_eq h l hl.2 x hx
theorem pureOp_does {P : Program} {μ : Mu} {σ : St} {w : World} {ts : Ts} {a : Act} {o : Oper} {r : Value} (h : TRel μ ts a) (hR : Rel μ σ w) (he : pureOp P ts o = some r) : Does P μ σ w a.eval o r σ := by
  unfold pureOp at he
  split at he
  · rename_i hc
    simp only [Bool.and_eq_true, Bool.not_eq_true'] at hc
    split at he
    · rename_i r0 hr
      split at he
      · rename_i hf
        simp only [Option.some.injEq] at he
        subst he
        have hcg : execOp a.eval o = execOp (fun x => (evo ts x).getD undef) o := by
          refine execOp_congr o (fun cs b e => ?_) fun x hx => allFlat_eq h _ hc.1 x (by simpa using hx)
          rw [e] at hc; simp [isSelect] at hc
        exact ⟨μ, r0, w, _, by rw [hcg]; exact pureRun_run hr w, .inl rfl, flat_rel μ hf, hR, Step.refl _ _ _⟩
      · cases he
    · cases he
  · cases he

/-! new blocks -/
def newP (σ : St) (cells : List Value) (esz : Nat) : Option (Nat × St) :=
  forceL cells fun cells => if σ.size < 65536 then some (σ.size, σ.newS ⟨cells, true, esz, [], true⟩) else none
theorem cells_rel {μ : Mu} {v v' : Value} (h : VRel μ v v') : LRel μ v.cells.toList v'.cells.toList := by
  cases h with
  | agg l l' h => simpa [Value.cells] using h
  | sc v hs => cases v <;> first | (simp [scalar] at hs; done) | exact .cons _ _ _ _ (.sc _ hs) .nil
  | ptr k o L h => exact .cons _ _ _ _ (.ptr k o L h) .nil
  | slc k o n c L h hc => exact .cons _ _ _ _ (.slc k o n c L h hc) .nil
  | slo k o n c L h hn hs => exact .cons _ _ _ _ (.slo k o n c L h hn hs) .nil
  | sle k o o' L h hs => exact .cons _ _ _ _ (.sle k o o' L h hs) .nil
  | iface t v v' h => exact .cons _ _ _ _ (.iface t v v' h) .nil
  | tuple l l' h => exact .cons _ _ _ _ (.tuple l l' h) .nil
  | fn g l l' c c' h hc => exact .cons _ _ _ _ (.fn g l l' c c' h hc) .nil
theorem one_rel {μ : Mu} {v v' : Value} (h : VRel μ v v') : v'.oneCell' = v.oneCell' := by cases h <;> rfl
theorem ones_rel {μ : Mu} : ∀ {l l' : List Value}, LRel μ l l' → l'.all (·.oneCell') = l.all (·.oneCell')
  | _, _, .nil => rfl
  | _, _, .cons v v' l l' h hl => by simp [one_rel h, ones_rel hl]
theorem newP_does {P : Program} {μ : Mu} {σ σ' : St} {w w1 : World} {cells : List Value} {c : Array Value} {esz k : Nat} (hR : Rel μ σ w) (hn : newP σ cells esz = some (k, σ')) (hf : ∀ j, σ.size ≤ j → j < σ'.size → μ j = none) (e : TypeId)
    (hl : cells.length ≤ c.size) (hc : LRel μ cells (c.toList.take cells.length)) (hw : w1.heap = w.heap.push (.cells c e (0, 0))) (ho : w1.os = w.os) (ht : w1.tape = w.tape) (hp : w1.output = w.output) :
    k = σ.size ∧ Rel (μ.add k ⟨w.heap.size, 0, c.size, esz⟩) σ' w1 ∧ Step μ (μ.add k ⟨w.heap.size, 0, c.size, esz⟩) σ σ' w w1 := by
  unfold newP at hn
  rw [forceL_eq] at hn
  split at hn
  · rename_i hlt
    simp only [Option.some.injEq, Prod.mk.injEq] at hn
    obtain ⟨rfl, rfl⟩ := hn
    exact ⟨rfl, hR.alloc cells c e esz (hf _ (Nat.le_refl _) (by simp [St.newS])) hlt hl hc hw ho ht hp⟩
  · cases hn

/-! alloc, box -/
def allocV (P : Program) (σ : St) (e : TypeId) : Option (Value × St) :=
  match P.info? e with
  | some i => match i.zero with
    | some z => if flatL z.cells.toList then (newP σ z.cells.toList 0).map fun p => (.pointer (some ⟨p.1, 0, none⟩), p.2) else none
    | none => none
  | none => none
theorem allocV_does {P : Program} {μ : Mu} {σ σ' : St} {w : World} {e : TypeId} {r : Value} (hR : Rel μ σ w) (he : allocV P σ e = some (r, σ')) (hf : ∀ j, σ.size ≤ j → j < σ'.size → μ j = none) {ρ : Operand → Value} {o : Oper} (ho : o.op = .alloc e) :
    Does P μ σ w ρ o r σ' := by
  unfold allocV at he
  split at he
  · rename_i i hi
    split at he
    · rename_i z hz
      split at he
      · rename_i hfl
        simp only [Option.map_eq_some_iff, Prod.exists, Prod.mk.injEq] at he
        obtain ⟨k, s, hn, rfl, rfl⟩ := he
        obtain ⟨rfl, h1, h2⟩ := newP_does (P := P) (w1 := w.alloc (.cells z.cells e)) hR hn hf e (c := z.cells) (by simp) (by rw [show z.cells.toList.length = z.cells.size by simp, List.take_of_length_le (by simp)]; exact flatL_rel μ hfl) rfl rfl rfl rfl
        refine ⟨_, .pointer (some ⟨w.heap.size, 0, none⟩), w.alloc (.cells z.cells e), _, ?_, .inl rfl, ?_, h1, h2⟩
        · simp [execOp, ho, Instr.alloc, zeroValue, typeInfo, hi, hz, newVar, newRow]
        · have := VRel.ptr (μ := μ.add σ.size ⟨w.heap.size, 0, z.cells.size, 0⟩) σ.size 0 ⟨w.heap.size, 0, z.cells.size, 0⟩ (Mu.add_self _ _ _)
          simpa using this
      · cases he
    · cases he
  · cases he
def boxV (σ : St) (v : Value) : Option (Value × St) := (newP σ v.cells.toList 0).map fun p => (.pointer (some ⟨p.1, 0, none⟩), p.2)
theorem boxV_does {P : Program} {μ : Mu} {σ σ' : St} {w : World} {e : TypeId} {r v : Value} (hR : Rel μ σ w) (he : boxV σ v = some (r, σ')) (hf : ∀ j, σ.size ≤ j → j < σ'.size → μ j = none) {ρ : Operand → Value} {o : Oper} {x : Operand} (ho : o.op = .box e x) (hv : VRel μ v (ρ x)) :
    Does P μ σ w ρ o r σ' := by
  unfold boxV at he
  simp only [Option.map_eq_some_iff, Prod.exists, Prod.mk.injEq] at he
  obtain ⟨k, s, hn, rfl, rfl⟩ := he
  have hc := cells_rel hv
  have hl := hc.length
  obtain ⟨rfl, h1, h2⟩ := newP_does (P := P) (w1 := w.alloc (.cells (ρ x).cells e)) hR hn hf e (c := (ρ x).cells) (by rw [hl]; simp) (by rw [hl, List.take_length]; exact hc) rfl rfl rfl rfl
  refine ⟨_, .pointer (some ⟨w.heap.size, 0, none⟩), w.alloc (.cells (ρ x).cells e), _, ?_, .inl rfl, ?_, h1, h2⟩
  · simp [execOp, ho, Instr.box, newVar, newRow]
  · have := VRel.ptr (μ := μ.add σ.size ⟨w.heap.size, 0, (ρ x).cells.size, 0⟩) σ.size 0 ⟨w.heap.size, 0, (ρ x).cells.size, 0⟩ (Mu.add_self _ _ _)
    simpa using this

/-! load, store -/
def loadB (P : Program) (σ : St) (t : TypeId) (k off : Nat) : Option Value :=
  match σ.getB k with
  | some B => match P.underlying t, P.info? t with
    | some d, some i => if d.isRow then (if off + i.size ≤ B.cells.length then some (.agg ((B.cells.drop off).take i.size).toArray) else none) else B.cells[off]?
    | _, _ => none
  | none => none
theorem loadB_does {P : Program} {μ : Mu} {σ : St} {w : World} {t : TypeId} {k off : Nat} {r : Value} {L : Loc} (hR : Rel μ σ w) (hL : μ k = some L) (he : loadB P σ t k off = some r) :
    ∃ r', (loadVar t ⟨L.blk, off + L.sh, none⟩).run P w = .ok r' w ∧ VRel μ r r' := by
  unfold loadB at he
  split at he
  · rename_i B hB
    have hb := hR.blk k B L hB hL
    split at he
    · rename_i d i hd hi
      split at he
      · rename_i hrow
        split at he
        · rename_i hlen
          simp only [Option.some.injEq] at he
          subst he
          obtain ⟨m, h1, h2, h3⟩ := hb.range off i.size hlen
          exact ⟨_, run_loadVar_mid w L.blk (off + L.sh) t m d h3 hd (by simpa using hrow) (by simp [hi, h1]), .agg _ _ h2⟩
        · cases he
      · rename_i hrow
        have hlt : off < B.cells.length := (List.getElem?_eq_some_iff.1 he).1
        obtain ⟨m, h1, h2, h3⟩ := hb.range off 1 (by omega)
        have hr0 : ((B.cells.drop off).take 1)[0]? = some r := by simp [List.getElem?_take, he]
        obtain ⟨r', h4, h5⟩ := h2.get 0 r hr0
        refine ⟨r', ?_, h5⟩
        have hc := h3 0 r' h4
        have hagg : (isAgg t).run P w = .ok false w := by
          unfold isAgg
          rw [Sem.run_bind, run_underlying hd w]
          cases d <;> simp_all [TypeDesc.isRow]
        simp only [Nat.add_zero] at hc
        simp [loadVar, hagg, hc]
    · cases he
  · cases he
def storeB (P : Program) (σ : St) (t : TypeId) (k off : Nat) (v : Value) : Option St :=
  match σ.getB k with
  | some B => match P.info? t with
    | some i => if B.tip && v.cells.size == i.size && decide (off + i.size ≤ B.cells.length) && v.cells.toList.all (·.oneCell') then forceL (B.cells.take off ++ v.cells.toList ++ B.cells.drop (off + i.size)) fun l => some (σ.write k B l) else none
    | none => none
  | none => none
theorem write_does {P : Program} {μ : Mu} {σ : St} {w : World} {k off : Nat} {B : Blk} {L : Loc} (hR : Rel μ σ w) (hB : σ.getB k = some B) (hL : μ k = some L) (ht : B.tip = true) (vs vs' : List Value) (hvs : LRel μ vs vs') (hlen : off + vs.length ≤ B.cells.length) (h1 : vs.all (·.oneCell') = true) :
    ∃ w', (storeCells ⟨L.blk, off + L.sh, none⟩ vs').run P w = .ok () w' ∧ Rel μ (σ.write k B (B.cells.take off ++ vs ++ B.cells.drop (off + vs.length))) w' ∧ Step μ μ σ (σ.write k B (B.cells.take off ++ vs ++ B.cells.drop (off + vs.length))) w w' := by
  have hb := hR.blk k B L hB hL
  obtain ⟨c, e, g1, g2, g3, g4, g5⟩ := hb
  have hl := hvs.length
  have hst := run_storeCells_at P L.blk (off + L.sh) e vs' 0 c w g1 (by omega) (by
    have := ones_rel hvs
    rw [h1] at this
    simpa using this)
  simp only [Nat.add_zero] at hst
  refine ⟨_, hst, ?_⟩
  have hsz : (c.toList.take (off + L.sh) ++ vs' ++ c.toList.drop (off + L.sh + vs'.length)).toArray.size = c.size := by simp; omega
  refine hR.write hB hL ht _ (by simp; omega) g1 hsz ?_
  have e1 : (B.cells.take off ++ vs ++ B.cells.drop (off + vs.length)).length = B.cells.length := by simp; omega
  rw [e1]
  have e2 : (List.take B.cells.length (List.drop L.sh (c.toList.take (off + L.sh) ++ vs' ++ c.toList.drop (off + L.sh + vs'.length)).toArray.toList)) =
      ((c.toList.drop L.sh).take B.cells.length).take off ++ vs' ++ ((c.toList.drop L.sh).take B.cells.length).drop (off + vs.length) := by
    apply List.ext_getElem?
    intro i
    simp only [List.toList_toArray, List.getElem?_take, List.getElem?_drop, List.getElem?_append, List.length_take, List.length_append, List.length_drop, Array.length_toList]
    by_cases a1 : i < off
    · have : L.sh + i < min (off + L.sh) c.size := by omega
      have h2 : L.sh + i < min (off + L.sh) c.size + vs'.length := by omega
      have h3 : i < B.cells.length := by omega
      have h4 : i < min off (min B.cells.length (c.size - L.sh)) := by omega
      have h5 : i < min off (min B.cells.length (c.size - L.sh)) + vs'.length := by omega
      have h6 : L.sh + i < off + L.sh := by omega
      simp [this, h2, h3, h4, h5, h6, a1]
    · by_cases a2 : i < off + vs'.length
      · have h1 : ¬ L.sh + i < min (off + L.sh) c.size := by omega
        have h2 : L.sh + i < min (off + L.sh) c.size + vs'.length := by omega
        have h3 : i < B.cells.length := by omega
        have h4 : ¬ i < min off (min B.cells.length (c.size - L.sh)) := by omega
        have h5 : i < min off (min B.cells.length (c.size - L.sh)) + vs'.length := by omega
        have h6 : L.sh + i - min (off + L.sh) c.size = i - min off (min B.cells.length (c.size - L.sh)) := by omega
        simp [h1, h2, h3, h4, h5, h6]
      · have h2 : ¬ L.sh + i < min (off + L.sh) c.size + vs'.length := by omega
        have h5 : ¬ i < min off (min B.cells.length (c.size - L.sh)) + vs'.length := by omega
        have h6 : off + L.sh + vs'.length + (L.sh + i - (min (off + L.sh) c.size + vs'.length)) = L.sh + i := by omega
        have h7 : off + vs.length + (i - (min off (min B.cells.length (c.size - L.sh)) + vs'.length)) = i := by omega
        simp only [h2, h5, if_false, h6, h7]
  rw [e2]
  exact ((g5.take off).append hvs).append (g5.drop _)
theorem storeB_does {P : Program} {μ : Mu} {σ σ' : St} {w : World} {t : TypeId} {k off : Nat} {v v' : Value} {L : Loc} (hR : Rel μ σ w) (hL : μ k = some L) (hv : VRel μ v v') (he : storeB P σ t k off v = some σ') :
    ∃ w', (storeVar t ⟨L.blk, off + L.sh, none⟩ v').run P w = .ok () w' ∧ Rel μ σ' w' ∧ Step μ μ σ σ' w w' := by
  unfold storeB at he
  simp only [forceL_eq] at he
  split at he
  · rename_i B hB
    split at he
    · rename_i i hi
      split at he
      · rename_i hc
        simp only [Bool.and_eq_true, beq_iff_eq, decide_eq_true_eq] at hc
        obtain ⟨⟨⟨ht, hs⟩, hlen⟩, h1⟩ := hc
        simp only [Option.some.injEq] at he
        subst he
        have hcr := cells_rel hv
        have hl := hcr.length
        simp only [Array.length_toList] at hl
        obtain ⟨w', g1, g2, g3⟩ := write_does (P := P) (off := off) hR hB hL ht v.cells.toList v'.cells.toList hcr (by simp; omega) h1
        rw [show v.cells.toList.length = i.size by simpa using hs] at g2 g3
        refine ⟨w', ?_, g2, g3⟩
        have : v'.cells.size = i.size := by omega
        simp [storeVar, sizeOf, typeInfo, hi, this, g1]
      · cases he
    · cases he
  · cases he
end
end Go.Proofs.Ytadamjleglckpaa.ev

/- The reckoner's operations on addresses and slices. -/
namespace Go.Proofs.Ytadamjleglckpaa.ev
noncomputable section
open Go.RowKit
set_option linter.unusedSimpArgs false
set_option linter.unusedVariables false
set_option linter.unusedSectionVars false

/-- operations that only reckon a value -/
theorem does_val {P : Program} {μ : Mu} {σ : St} {w : World} {ρ : Operand → Value} {o : Oper} {r r' : Value} (hR : Rel μ σ w) (hv : VRel μ r r') (hr : (execOp ρ o).run P w = .ok (.value r') w) : Does P μ σ w ρ o r σ :=
  ⟨μ, r', w, _, hr, .inl rfl, hv, hR, Step.refl _ _ _⟩
theorem ptr_inv {μ : Mu} {k o : Nat} {v' : Value} (h : VRel μ (.pointer (some ⟨k, o, none⟩)) v') : ∃ L, μ k = some L ∧ v' = .pointer (some ⟨L.blk, o + L.sh, none⟩) := by
  cases h with
  | sc v h => simp [scalar] at h
  | ptr k o L h => exact ⟨L, h, rfl⟩
theorem int_inv {μ : Mu} {k : IntKind} {n : Int} {v' : Value} (h : VRel μ (.int k n) v') : v' = .int k n := flat_eq (by rfl) h
theorem fieldPlace_run {P : Program} {w : World} {f : Field} {i : TypeInfo} (hi : P.info? f.type = some i) (h0 : i.size ≠ 0) (a : Addr) : (fieldPlace a f).run P w = .ok (a.add f.offset) w := by
  simp [fieldPlace, sizeOf, typeInfo, hi, h0]
def fieldAddrV (P : Program) (s : TypeId) (v : Value) (f : Nat) : Option Value :=
  match P.underlying s, v with
  | some (.struct fs), .pointer (some ⟨k, o, none⟩) =>
    match fs[f]? with
    | some fd => match P.info? fd.type with
      | some i => if i.size = 0 then none else some (.pointer (some ⟨k, o + fd.offset, none⟩))
      | none => none
    | none => none
  | _, _ => none
theorem fieldAddrV_does {P : Program} {μ : Mu} {σ : St} {w : World} {ρ : Operand → Value} {o : Oper} {s : TypeId} {x : Operand} {f : Nat} {v r : Value} (hR : Rel μ σ w) (ho : o.op = .fieldAddr s x f) (hv : VRel μ v (ρ x)) (he : fieldAddrV P s v f = some r) : Does P μ σ w ρ o r σ := by
  unfold fieldAddrV at he
  split at he
  · rename_i fs k off hu
    split at he
    · rename_i fd hfd
      split at he
      · rename_i i hi
        split at he
        · cases he
        · rename_i h0
          simp only [Option.some.injEq] at he
          subst he
          obtain ⟨L, hL, hx⟩ := ptr_inv hv
          refine does_val hR (.ptr k (off + fd.offset) L hL) ?_
          simp [execOp, ho, Instr.fieldAt, run_underlying hu, hfd, Instr.sureAddr, hx, fieldPlace_run hi h0, Addr.add_lit]
          all_goals omega
      · cases he
    · cases he
  · cases he
/-- slices, read -/
theorem slc_inv {μ : Mu} {k o n c : Nat} {v' : Value} (h : VRel μ (.slice (some ⟨k, o, none⟩) n c) v') :
    ∃ L, μ k = some L ∧ ((c < opn ∧ v' = .slice (some ⟨L.blk, o + L.sh, none⟩) n c) ∨ (c = opn ∧ ∃ c', n ≤ c' ∧ o + L.sh + c' * L.esz = L.size ∧ v' = .slice (some ⟨L.blk, o + L.sh, none⟩) n c') ∨ (c = opn ∧ n = 0 ∧ o + L.sh = L.size ∧ ∃ o', v' = .slice (some ⟨L.blk, o', none⟩) 0 0)) := by
  cases h with
  | sc v h => simp [scalar] at h
  | slc k o n c L h hc => exact ⟨L, h, .inl ⟨hc, rfl⟩⟩
  | slo k o n c L h hn hs => exact ⟨L, h, .inr (.inl ⟨rfl, c, hn, hs, rfl⟩)⟩
  | sle k o o' L h hs => exact ⟨L, h, .inr (.inr ⟨rfl, rfl, hs, o', rfl⟩)⟩
def indexAddrV (P : Program) (t : TypeId) (v ix : Value) : Option Value :=
  match ix with
  | .int _ i =>
    match P.underlying t, v with
    | some (.slice e), .slice (some ⟨k, o, none⟩) n _ =>
      match P.info? e with
      | some inf => if 0 ≤ i ∧ i < n then some (.pointer (some ⟨k, o + i.toNat * inf.size, none⟩)) else none
      | none => none
    | some (.array n e), .pointer (some ⟨k, o, none⟩) =>
      match P.info? e with
      | some inf => if 0 ≤ i ∧ i < n then some (.pointer (some ⟨k, o + i.toNat * inf.size, none⟩)) else none
      | none => none
    | _, _ => none
  | _ => none
theorem indexAddrV_does {P : Program} {μ : Mu} {σ : St} {w : World} {ρ : Operand → Value} {o : Oper} {t : TypeId} {x y : Operand} {v u r : Value} (hR : Rel μ σ w) (ho : o.op = .indexAddr t x y) (hv : VRel μ v (ρ x)) (hu : VRel μ u (ρ y)) (he : indexAddrV P t v u = some r) : Does P μ σ w ρ o r σ := by
  unfold indexAddrV at he
  split at he
  · rename_i kd i
    have hy := int_inv hu
    split at he
    · rename_i e k off n c hut
      split at he
      · rename_i inf hi
        split at he
        · rename_i hb
          simp only [Option.some.injEq] at he
          subst he
          obtain ⟨L, hL, hx⟩ := slc_inv hv
          have hpos : 0 < n := by omega
          have hxx : ∃ c', ρ x = .slice (some ⟨L.blk, off + L.sh, none⟩) n c' := by
            rcases hx with ⟨_, hx⟩ | ⟨_, c', _, _, hx⟩ | ⟨_, h0, _⟩
            · exact ⟨_, hx⟩
            · exact ⟨_, hx⟩
            · omega
          obtain ⟨c', hx⟩ := hxx
          refine does_val hR (.ptr k (off + i.toNat * inf.size) L hL) ?_
          simp [execOp, ho, Instr.indexAt, run_underlying hut, hx, hy, asIntOf, hb, sizeOf, typeInfo, hi, Addr.add_lit]
          all_goals omega
        · cases he
      · cases he
    · rename_i n e k off hut
      split at he
      · rename_i inf hi
        split at he
        · rename_i hb
          simp only [Option.some.injEq] at he
          subst he
          obtain ⟨L, hL, hx⟩ := ptr_inv hv
          refine does_val hR (.ptr k (off + i.toNat * inf.size) L hL) ?_
          simp [execOp, ho, Instr.indexAt, run_underlying hut, hx, hy, asIntOf, Instr.sureAddr, hb, sizeOf, typeInfo, hi, Addr.add_lit]
          all_goals omega
        · cases he
      · cases he
    · cases he
  · cases he

/-! slices of slices and of arrays -/
def bnd : Option Value → Option (Option Nat)
  | none => some none
  | some (.int _ i) => if 0 ≤ i then some (some i.toNat) else none
  | some _ => none
/-- low, high, max within a capacity -/
def bounds (len cap : Nat) (lo hi mx : Option Nat) : Option (Nat × Nat × Nat) :=
  if mx.getD cap ≤ cap ∧ hi.getD len ≤ mx.getD cap ∧ lo.getD 0 ≤ hi.getD len ∧ (hi.isSome || mx.isNone) = true then some (lo.getD 0, hi.getD len, mx.getD cap) else none
theorem bnd_run {P : Program} {w : World} {v : Value} {i : Nat} (h : bnd (some v) = some (some i)) (y : Nat) (hy : i ≤ y) (code : BoundsCode) : (Instr.sliceBound v y code).run P w = .ok i w := by
  unfold bnd at h
  split at h
  · rename_i h1; simp at h1
  · rename_i k n h1
    split at h
    · rename_i h0
      simp only [Option.some.injEq] at h1 h
      subst h1; subst h
      have : n ≤ (y : Int) := by omega
      simp [Instr.sliceBound, asIntOf, h0, this]
    · cases h
  · cases h
theorem bounds_run {P : Program} {w : World} {isSlice : Bool} {len cap : Nat} {lo hi mx : Option Value} {lo' hi' mx' : Option Nat} {l h m : Nat} (h1 : bnd lo = some lo') (h2 : bnd hi = some hi') (h3 : bnd mx = some mx') (hb : bounds len cap lo' hi' mx' = some (l, h, m)) :
    (Instr.sliceBounds isSlice len cap lo hi mx).run P w = .ok (l, h, m) w := by
  unfold bounds at hb
  split at hb
  · rename_i hc
    obtain ⟨c1, c2, c3, c4⟩ := hc
    simp only [Option.some.injEq, Prod.mk.injEq] at hb
    obtain ⟨rfl, rfl, rfl⟩ := hb
    have hn : ∀ {x : Option Value} {x' : Option Nat}, bnd x = some x' → (x = none ∧ x' = none) ∨ ∃ v i, x = some v ∧ x' = some i := by
      intro x x' hx
      cases x with
      | none => simp [bnd] at hx; exact .inl ⟨rfl, hx.symm⟩
      | some v =>
        cases v <;> simp [bnd] at hx
        exact .inr ⟨_, _, rfl, hx.2.symm⟩
    rcases hn h1 with ⟨rfl, rfl⟩ | ⟨a, a', rfl, rfl⟩ <;> rcases hn h2 with ⟨rfl, rfl⟩ | ⟨b, b', rfl, rfl⟩ <;> rcases hn h3 with ⟨rfl, rfl⟩ | ⟨c, c', rfl, rfl⟩ <;> simp only [Option.getD_none, Option.getD_some] at c1 c2 c3 ⊢
    · simp [Instr.sliceBounds]
    · simp at c4
    · simp [Instr.sliceBounds, bnd_run (P := P) (w := w) h2 _ c2]
    · simp [Instr.sliceBounds, bnd_run (P := P) (w := w) h2 _ c2, bnd_run (P := P) (w := w) h3 _ c1]
    · simp [Instr.sliceBounds, bnd_run (P := P) (w := w) h1 _ c3]
    · simp at c4
    · simp [Instr.sliceBounds, bnd_run (P := P) (w := w) h2 _ c2, bnd_run (P := P) (w := w) h1 _ c3]
    · simp [Instr.sliceBounds, bnd_run (P := P) (w := w) h2 _ c2, bnd_run (P := P) (w := w) h3 _ c1, bnd_run (P := P) (w := w) h1 _ c3]
  · cases hb
/-- the result of slicing at a known capacity -/
def cutA (k o : Nat) (size l h m : Nat) : Option Value :=
  if m - l < opn then some (.slice (some ⟨k, if m = l then o else o + l * size, none⟩) (h - l) (m - l)) else none
def sliceV (P : Program) (σ : St) (t : TypeId) (v : Value) (lo hi mx : Option Value) : Option Value :=
  match bnd lo, bnd hi, bnd mx with
  | some lo', some hi', some mx' =>
    match P.underlying t, v with
    | some (.array n e), .pointer (some ⟨k, o, none⟩) =>
      match P.info? e with
      | some i => match bounds n n lo' hi' mx' with
        | some (l, h, m) => cutA k o i.size l h m
        | none => none
      | none => none
    | some (.slice e), .slice none 0 0 =>
      match P.info? e with
      | some i => match bounds 0 0 lo' hi' mx' with
        | some (l, h, m) => some (.slice none 0 0)
        | none => none
      | none => none
    | some (.slice e), .slice (some ⟨k, o, none⟩) n c =>
      match P.info? e with
      | some i =>
        if c < opn then
          match bounds n c lo' hi' mx' with
          | some (l, h, m) => cutA k o i.size l h m
          | none => none
        else if c = opn then
          match mx' with
          | some m0 =>
            match bounds n n lo' hi' mx' with
            | some (l, h, m) => if 0 < n then cutA k o i.size l h m else none
            | none => none
          | none =>
            match bounds n n lo' hi' none, σ.getB k with
            | some (l, h, _), some B => if B.esz = i.size then some (.slice (some ⟨k, o + l * i.size, none⟩) (h - l) opn) else none
            | _, _ => none
        else none
      | none => none
    | _, _ => none
  | _, _, _ => none
theorem bnd_rel {μ : Mu} {x x' : Option Value} {r : Option Nat} (h : (x = none ∧ x' = none) ∨ ∃ v v', x = some v ∧ x' = some v' ∧ VRel μ v v') (hb : bnd x = some r) : bnd x' = some r := by
  rcases h with ⟨rfl, rfl⟩ | ⟨v, v', rfl, rfl, hv⟩
  · exact hb
  · cases v <;> simp [bnd] at hb
    rw [int_inv hv]
    simp [bnd, hb]
theorem bounds_wide {len c c' : Nat} {lo hi : Option Nat} {l h m : Nat} (hb : bounds len c lo hi none = some (l, h, m)) (hc : c ≤ c') : bounds len c' lo hi none = some (l, h, c') ∧ l ≤ h ∧ h ≤ c := by
  unfold bounds at *
  split at hb
  · rename_i g
    simp only [Option.getD_none, Option.some.injEq, Prod.mk.injEq] at hb g
    obtain ⟨rfl, rfl, rfl⟩ := hb
    refine ⟨?_, g.2.2.1, g.2.1⟩
    rw [if_pos ⟨by simp, by simp; omega, g.2.2.1, by simp⟩]
    simp
  · cases hb
theorem bounds_max {len c c' m0 : Nat} {lo hi : Option Nat} {l h m : Nat} (hb : bounds len c lo hi (some m0) = some (l, h, m)) (hc : c ≤ c') : bounds len c' lo hi (some m0) = some (l, h, m) ∧ l ≤ h ∧ h ≤ m := by
  unfold bounds at *
  split at hb
  · rename_i g
    simp only [Option.getD_some, Option.some.injEq, Prod.mk.injEq] at hb g
    obtain ⟨rfl, rfl, rfl⟩ := hb
    refine ⟨?_, g.2.2.1, g.2.1⟩
    rw [if_pos ⟨by simp; omega, by simpa using g.2.1, g.2.2.1, by simpa using g.2.2.2⟩]
    simp
  · cases hb
theorem add_if (b o s : Nat) (p : Prop) [Decidable p] (n : Nat) : (if p then some (⟨b, o, none⟩ : Addr) else some ((⟨b, o, none⟩ : Addr).add n)) = some ⟨b, if p then o else o + n, none⟩ := by
  split <;> simp [Addr.add_lit]
theorem sliceV_does {P : Program} {μ : Mu} {σ : St} {w : World} {ρ : Operand → Value} {o : Oper} {t : TypeId} {x : Operand} {lo hi mx : Option Operand} {v r : Value} {lv hv mv : Option Value} (hR : Rel μ σ w) (ho : o.op = .slice t x lo hi mx) (hx : VRel μ v (ρ x))
    (h1 : (lv = none ∧ lo.map ρ = none) ∨ ∃ u u', lv = some u ∧ lo.map ρ = some u' ∧ VRel μ u u') (h2 : (hv = none ∧ hi.map ρ = none) ∨ ∃ u u', hv = some u ∧ hi.map ρ = some u' ∧ VRel μ u u') (h3 : (mv = none ∧ mx.map ρ = none) ∨ ∃ u u', mv = some u ∧ mx.map ρ = some u' ∧ VRel μ u u')
    (he : sliceV P σ t v lv hv mv = some r) : Does P μ σ w ρ o r σ := by
  have hex : (execOp ρ o).run P w = ((Instr.sliceAt t (ρ x) (lo.map ρ) (hi.map ρ) (mx.map ρ)).run P w).andThen fun r w => .ok (.value r) w := by simp [execOp, ho]
  have cut : ∀ (k off sz l h m n : Nat) (L : Loc) (r : Value), μ k = some L → cutA k off sz l h m = some r → VRel μ r (.slice (some ⟨L.blk, if m = l then off + L.sh else off + L.sh + l * sz, none⟩) (h - l) (m - l)) := by
    intro k off sz l h m n L r hL hc
    unfold cutA at hc
    split at hc
    · rename_i hlt
      simp only [Option.some.injEq] at hc
      subst hc
      have := VRel.slc (μ := μ) k (if m = l then off else off + l * sz) (h - l) (m - l) L hL hlt
      have e : (if m = l then off else off + l * sz) + L.sh = if m = l then off + L.sh else off + L.sh + l * sz := by split <;> omega
      rwa [e] at this
    · cases hc
  unfold sliceV at he
  split at he
  · rename_i lo' hi' mx' b1 b2 b3
    have c1 := bnd_rel h1 b1
    have c2 := bnd_rel h2 b2
    have c3 := bnd_rel h3 b3
    split at he
    · rename_i n e k off hu
      split at he
      · rename_i i hi'
        split at he
        · rename_i l h m hb
          obtain ⟨L, hL, hxx⟩ := ptr_inv hx
          refine does_val hR (cut k off i.size l h m 0 L r hL he) ?_
          rw [hex, hxx]
          simp [Instr.sliceAt, run_underlying hu, Instr.sureAddr, bounds_run (P := P) (w := w) (isSlice := false) c1 c2 c3 hb, sizeOf, typeInfo, hi', Addr.add_lit]
          split <;> simp
        · cases he
      · cases he
    · rename_i e hu
      split at he
      · rename_i i hi'
        split at he
        · rename_i l h m hb
          simp only [Option.some.injEq] at he
          subst he
          have hxx := scalar_eq (by rfl) hx
          refine does_val hR (.sc _ rfl) ?_
          have hz : l = 0 ∧ h = 0 ∧ m = 0 := by
            unfold bounds at hb
            split at hb
            · rename_i g
              simp only [Option.some.injEq, Prod.mk.injEq] at hb
              omega
            · cases hb
          obtain ⟨rfl, rfl, rfl⟩ := hz
          rw [hex, hxx]
          simp [Instr.sliceAt, Instr.slice, run_underlying hu, bounds_run (P := P) (w := w) (isSlice := true) c1 c2 c3 hb, sizeOf, typeInfo, hi']
        · cases he
      · cases he
    · rename_i _ e k off n c hu
      split at he
      · rename_i i hi'
        obtain ⟨L, hL, hxx⟩ := slc_inv hx
        split at he
        · rename_i hc
          split at he
          · rename_i l h m hb
            rcases hxx with ⟨_, hxx⟩ | ⟨h0, _⟩ | ⟨h0, _⟩
            · refine does_val hR (cut k off i.size l h m 0 L r hL he) ?_
              rw [hex, hxx]
              simp [Instr.sliceAt, Instr.slice, run_underlying hu, bounds_run (P := P) (w := w) (isSlice := true) c1 c2 c3 hb, sizeOf, typeInfo, hi', Addr.add_lit]
              split <;> simp
            · omega
            · omega
          · cases he
        · split at he
          · rename_i hc
            subst hc
            split at he
            · rename_i m0
              split at he
              · rename_i l h m hb
                split at he
                · rename_i hpos
                  rcases hxx with ⟨h0, _⟩ | ⟨_, c', hn, hs, hxx⟩ | ⟨_, h0, _⟩
                  · omega
                  · obtain ⟨hb', _, _⟩ := bounds_max hb hn
                    refine does_val hR (cut k off i.size l h m 0 L r hL he) ?_
                    rw [hex, hxx]
                    simp [Instr.sliceAt, Instr.slice, run_underlying hu, bounds_run (P := P) (w := w) (isSlice := true) c1 c2 c3 hb', sizeOf, typeInfo, hi', Addr.add_lit]
                    split <;> simp
                  · omega
                · cases he
              · cases he
            · split at he
              · rename_i l h m B hb hB
                split at he
                · rename_i hesz
                  simp only [Option.some.injEq] at he
                  subst he
                  obtain ⟨_, _, _, _, g3, _⟩ := hR.blk k B L hB hL
                  rcases hxx with ⟨h0, _⟩ | ⟨_, c', hn, hs, hxx⟩ | ⟨_, h0, hs, o', hxx⟩
                  · omega
                  · obtain ⟨hb', hlh, hhn⟩ := bounds_wide hb hn
                    have hrun : (execOp ρ o).run P w = .ok (.value (.slice (some ⟨L.blk, if c' = l then off + L.sh else off + L.sh + l * i.size, none⟩) (h - l) (c' - l))) w := by
                      rw [hex, hxx]
                      simp [Instr.sliceAt, Instr.slice, run_underlying hu, bounds_run (P := P) (w := w) (isSlice := true) c1 c2 c3 hb', sizeOf, typeInfo, hi', Addr.add_lit]
                      split <;> simp
                    by_cases hcl : c' = l
                    · rw [if_pos hcl] at hrun
                      have e1 : h - l = 0 := by omega
                      have e2 : c' - l = 0 := by omega
                      rw [e1, e2] at hrun
                      rw [e1]
                      exact does_val hR (.sle k (off + l * i.size) (off + L.sh) L hL (by rw [g3, hesz, hcl] at hs; omega)) hrun
                    · rw [if_neg hcl] at hrun
                      refine does_val hR ?_ hrun
                      have := VRel.slo (μ := μ) k (off + l * i.size) (h - l) (c' - l) L hL (by omega) (by
                        rw [g3, hesz] at *
                        rw [Nat.sub_mul]
                        have : l * i.size ≤ c' * i.size := Nat.mul_le_mul_right _ (by omega)
                        omega)
                      rwa [show off + l * i.size + L.sh = off + L.sh + l * i.size by omega] at this
                  · subst h0
                    obtain ⟨hb', hlh, hhn⟩ := bounds_wide hb (Nat.le_refl 0)
                    obtain rfl : h = 0 := by omega
                    obtain rfl : l = 0 := by omega
                    refine does_val hR (.sle k _ o' L hL (by omega)) ?_
                    rw [hex, hxx]
                    simp [Instr.sliceAt, Instr.slice, run_underlying hu, bounds_run (P := P) (w := w) (isSlice := true) c1 c2 c3 hb', sizeOf, typeInfo, hi', Addr.add_lit]
                · cases he
              · cases he
          · cases he
      · cases he
    · cases he
  · cases he
end
end Go.Proofs.Ytadamjleglckpaa.ev

