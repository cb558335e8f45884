/- Lists of structs and of ints that a call has made itself: from the rows that it owns to what reads as a list. -/
import Derived.Test.YtcalipoknbbaaaaCheck
import Derived.OwnWalk
namespace Go.Proofs.Ytcalipoknbbaaaa
open Go.RowKit

def flatP (ps : List Pl) : List Value := ps.flatMap fun p => [.int .i64 p.1, .int .i64 p.2]
def flatG (gs : List Gl) : List Value := gs.flatMap fun g => [.int .i64 g.1, .int .i64 g.2.1, .int .i64 g.2.2]
def flatI (xs : List Int) : List Value := xs.map (Value.int .i64)

theorem flatP_snoc (ps : List Pl) (p : Pl) : flatP (ps ++ [p]) = flatP ps ++ [.int .i64 p.1, .int .i64 p.2] := by simp [flatP]
theorem flatG_snoc (gs : List Gl) (g : Gl) : flatG (gs ++ [g]) = flatG gs ++ [.int .i64 g.1, .int .i64 g.2.1, .int .i64 g.2.2] := by simp [flatG]
theorem flatI_snoc (xs : List Int) (x : Int) : flatI (xs ++ [x]) = flatI xs ++ [.int .i64 x] := by simp [flatI]

theorem flatP_get : ∀ (ps : List Pl) (i : Nat), i < ps.length → (flatP ps)[i * 2]? = some (.int .i64 (ps.getD i (0, 0)).1) ∧ (flatP ps)[i * 2 + 1]? = some (.int .i64 (ps.getD i (0, 0)).2)
  | [], i, h => by simp at h
  | p :: ps, 0, _ => by simp [flatP]
  | p :: ps, i + 1, h => by
    have ih := flatP_get ps i (by simpa using h)
    have e : flatP (p :: ps) = .int .i64 p.1 :: .int .i64 p.2 :: flatP ps := by simp [flatP]
    rw [e, show (i + 1) * 2 = i * 2 + 1 + 1 from by omega]
    simpa using ih
theorem flatG_get : ∀ (gs : List Gl) (i : Nat), i < gs.length → (flatG gs)[i * 3]? = some (.int .i64 (gs.getD i (0, 0, 0)).1) ∧ (flatG gs)[i * 3 + 1]? = some (.int .i64 (gs.getD i (0, 0, 0)).2.1) ∧ (flatG gs)[i * 3 + 2]? = some (.int .i64 (gs.getD i (0, 0, 0)).2.2)
  | [], i, h => by simp at h
  | g :: gs, 0, _ => by simp [flatG]
  | g :: gs, i + 1, h => by
    have ih := flatG_get gs i (by simpa using h)
    have e : flatG (g :: gs) = .int .i64 g.1 :: .int .i64 g.2.1 :: .int .i64 g.2.2 :: flatG gs := by simp [flatG]
    rw [e, show (i + 1) * 3 = i * 3 + 1 + 1 + 1 from by omega]
    simpa using ih
theorem flatI_get (xs : List Int) (i : Nat) (h : i < xs.length) : (flatI xs)[i]? = some (.int .i64 (xs.getD i 0)) := by
  rw [getD_eq xs i 0 h]; simp [flatI, List.getElem?_eq_getElem h]

theorem addr_add (g j : Nat) : (⟨g, 0, none⟩ : Addr).add j = ⟨g, j, none⟩ := by unfold Addr.add; split <;> simp_all

/-- what owns a row of places reads as the places -/
theorem rowP_of_owns {w : World} {base : Nat} {e : TypeId} {v : Value} {ps : List Pl} (h : w.ownsRow base e 2 v ps.length (flatP ps)) : ∃ q cap, v = .slice q ps.length cap ∧ RowP w q ps := by
  have hlt := h.lt
  have hc := fun g hg => h.cells (g := g) hg
  obtain ⟨_, ⟨rfl, hn⟩ | ⟨g, cap, cur, rfl, hb, _⟩⟩ := h
  · exact ⟨none, 0, by rw [hn], .inl (List.eq_nil_of_length_eq_zero hn)⟩
  · refine ⟨_, cap, rfl, .inr ⟨g, 0, rfl, (hlt g rfl).2, fun i hi => ?_⟩⟩
    obtain ⟨g1, g2⟩ := flatP_get ps i hi
    rw [Nat.zero_add, ← addr_add g (i * 2), ← addr_add g (i * 2 + 1)]
    exact ⟨hc g rfl _ _ g1, hc g rfl _ _ g2⟩
theorem rowG_of_owns {w : World} {base : Nat} {e : TypeId} {v : Value} {gs : List Gl} (h : w.ownsRow base e 3 v gs.length (flatG gs)) : ∃ q cap, v = .slice q gs.length cap ∧ RowG w q gs := by
  have hlt := h.lt
  have hc := fun g hg => h.cells (g := g) hg
  obtain ⟨_, ⟨rfl, hn⟩ | ⟨g, cap, cur, rfl, hb, _⟩⟩ := h
  · exact ⟨none, 0, by rw [hn], .inl (List.eq_nil_of_length_eq_zero hn)⟩
  · refine ⟨_, cap, rfl, .inr ⟨g, 0, rfl, (hlt g rfl).2, fun i hi => ?_⟩⟩
    obtain ⟨g1, g2, g3⟩ := flatG_get gs i hi
    rw [Nat.zero_add, ← addr_add g (i * 3), ← addr_add g (i * 3 + 1), ← addr_add g (i * 3 + 2)]
    exact ⟨hc g rfl _ _ g1, hc g rfl _ _ g2, hc g rfl _ _ g3⟩
theorem rowI_of_owns {w : World} {base : Nat} {e : TypeId} {v : Value} {xs : List Int} (h : w.ownsRow base e 1 v xs.length (flatI xs)) : ∃ q cap, v = .slice q xs.length cap ∧ RowI w q xs := by
  have hlt := h.lt
  have hc := fun g hg => h.cells (g := g) hg
  obtain ⟨_, ⟨rfl, hn⟩ | ⟨g, cap, cur, rfl, hb, _⟩⟩ := h
  · exact ⟨none, 0, by rw [hn], .inl (List.eq_nil_of_length_eq_zero hn)⟩
  · refine ⟨_, cap, rfl, .inr ⟨g, 0, rfl, (hlt g rfl).2, fun i hi => ?_⟩⟩
    rw [Nat.zero_add, ← addr_add g i]
    exact hc g rfl _ _ (flatI_get xs i hi)

/-- a row that is owned stays owned where what lay below the world's size stands as it was -/
theorem owns_below {w w' : World} {base : Nat} {e : TypeId} {size : Nat} {v : Value} {n : Nat} {xs : List Value} (h : w.ownsRow base e size v n xs) {N : Nat} (hN : w.heap.size ≤ N) (hb : Below N w w') : w'.ownsRow base e size v n xs := by
  have hlt := h.lt
  obtain ⟨h1, h2 | ⟨g, cap, cur, rfl, hg, hh, r⟩⟩ := h
  · exact ⟨h1, .inl h2⟩
  · have := (hlt g rfl).2
    exact ⟨h1, .inr ⟨g, cap, cur, rfl, hg, (hb.block g (by omega)).trans hh, r⟩⟩

/-- the place of a list of ints in an index list: slices.Index -/
theorem RowI.at {w wr : World} {q : Option Addr} {xs : List Int} (h : RowI w q xs) {k : Nat} (hk : k < xs.length) {N : Nat} (hN : w.heap.size ≤ N) (hb : Below N w wr) :
    ∃ b off, q = some ⟨b, off, none⟩ ∧ b < w.heap.size ∧ wr.cell? ⟨b, off + k, none⟩ = some (.int .i64 (xs.getD k 0)) := by
  have h' := h.below hN hb
  rcases h with rfl | ⟨b, off, rfl, hlt, _⟩
  · simp at hk
  · rcases h' with rfl | ⟨b', off', e, _, hc⟩
    · simp at hk
    · simp only [Option.some.injEq, Addr.mk.injEq] at e
      obtain ⟨rfl, rfl, _⟩ := e
      exact ⟨b, off, rfl, hlt, hc k hk⟩
theorem RowP.at {w wr : World} {q : Option Addr} {ps : List Pl} (h : RowP w q ps) {k : Nat} (hk : k < ps.length) {N : Nat} (hN : w.heap.size ≤ N) (hb : Below N w wr) :
    ∃ b off, q = some ⟨b, off, none⟩ ∧ b < w.heap.size ∧ wr.cell? ⟨b, off + k * 2, none⟩ = some (.int .i64 (ps.getD k (0, 0)).1) ∧ wr.cell? ⟨b, off + k * 2 + 1, none⟩ = some (.int .i64 (ps.getD k (0, 0)).2) := by
  have h' := h.below hN hb
  rcases h with rfl | ⟨b, off, rfl, hlt, _⟩
  · simp at hk
  · rcases h' with rfl | ⟨b', off', e, _, hc⟩
    · simp at hk
    · simp only [Option.some.injEq, Addr.mk.injEq] at e
      obtain ⟨rfl, rfl, _⟩ := e
      exact ⟨b, off, rfl, hlt, hc k hk⟩

/-- the first k of a list are none that is looked for -/
def AllNo {α : Type} (f : α → Bool) (l : List α) (k : Nat) : Prop := (l.take k).all (fun a => !f a) = true
theorem AllNo.step {α : Type} {f : α → Bool} {l : List α} {k : Nat} (h : AllNo f l k) (hk : k < l.length) (d : α) :
    (f (l.getD k d) = false → AllNo f l (k + 1)) ∧ (f (l.getD k d) = true → firstIdx f l = k) := by
  rw [getD_eq l k d hk]
  constructor
  · intro e; unfold AllNo at *; rw [all_take_succ _ l k hk, h, e]; rfl
  · intro e; exact firstIdx_hit _ l k hk h e
theorem AllNo.all {α : Type} {f : α → Bool} {l : List α} (h : AllNo f l l.length) : firstIdx f l = -1 :=
  firstIdx_miss _ l (by simpa [AllNo] using h)

set_option maxHeartbeats 400000 in
theorem indexI_any (x : Int) (q : Option Addr) (cap : Nat) (xs : List Int) (w : World) (hr : RowI w q xs) (hl : xs.length ≤ 1000000) :
    Calls Try.prog 152 #[.slice q xs.length cap, .int .i64 x] w fun e w' => e = .returned (.int .i64 (firstIdx (fun y => x == y) xs)) ∧ w = w' := by
  go_enter Try.func152, Try.ntmps152
  go_wp2
  go_loop [8] (fun i => ∃ k : Nat, k ≤ xs.length ∧ i = .int .i64 k ∧ AllNo (fun y => x == y) xs k) (fun i => xs.length - (intOf i).toNat)
  case atStart => exact ⟨0, Nat.zero_le _, rfl, rfl⟩
  case round =>
    obtain ⟨k, hk, rfl, hall⟩ := hrel
    by_cases hlt : k < xs.length
    · obtain ⟨b, off, rfl, hb, h1⟩ := hr.at hlt (Nat.le_refl _) (Below.refl _ w)
      have hst := hall.step hlt 0
      have HS := Lib.hid hst
      clear hst
      generalize xs.getD k 0 = y at h1 HS
      go_wp2
      · have hy : (x == y) = true := by assumption
        go_ret
        exact ⟨ret_int (HS.out.2 hy).symm, rfl⟩
      · have hy : (x == y) = false := by assumption
        go_round
        case rel => exact ⟨k + 1, hlt, by go_num, HS.out.1 hy⟩
        case measure => simp [intOf]; omega
    · obtain rfl : k = xs.length := by omega
      go_wp2
      go_ret
      exact ⟨ret_int hall.all.symm, rfl⟩

def hasI (xs : List Int) (x : Int) : Bool := xs.any fun y => x == y

set_option maxHeartbeats 400000 in
theorem containsI_any (x : Int) (q : Option Addr) (cap : Nat) (xs : List Int) (w : World) (hr : RowI w q xs) (hl : xs.length ≤ 1000000) :
    Calls Try.prog 135 #[.slice q xs.length cap, .int .i64 x] w fun e w' => e = .returned (.bool (hasI xs x)) ∧ w = w' := by
  go_enter Try.func135, Try.ntmps135
  go_wp2_with (go_at_call 152; refine (indexI_any x q cap xs _ hr hl).mono ?_; rintro e w' ⟨rfl, rfl⟩)
  go_ret
  exact ⟨ret_bool (firstIdx_any _ _), rfl⟩
end Go.Proofs.Ytcalipoknbbaaaa
