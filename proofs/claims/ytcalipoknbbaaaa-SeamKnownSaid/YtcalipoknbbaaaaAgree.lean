/- The walks of agrees, agreesWithAll, count (package seam), and of slices.ContainsFunc at galleries. -/
import Derived.Test.YtcalipoknbbaaaaProg
import Derived.Test.YtcalipoknbbaaaaBase
namespace Go.Proofs.Ytcalipoknbbaaaa
open Go.RowKit

abbrev Gl := Int × Int × Int
abbrev Pl := Int × Int
def okG (g : Gl) : Prop := small 1000 g.1 ∧ small 1000 g.2.1
def okP (p : Pl) : Prop := small 1000 p.1 ∧ small 1000 p.2
def val (g : Gl) (p : Pl) : Int := g.1 * p.1 + g.2.1 * p.2
def agr (g : Gl) (p : Pl) : Bool := decide (val g p ≤ g.2.2)

set_option maxHeartbeats 400000 in
theorem agrees_any (p : Pl) (g : Gl) (w : World) (hp : okP p) (hg : okG g) :
    Calls Try.prog 143 #[.agg #[.int .i64 p.1, .int .i64 p.2], .agg #[.int .i64 g.1, .int .i64 g.2.1, .int .i64 g.2.2]] w fun e w' => e = .returned (.bool (agr g p)) ∧ Below w.heap.size w w' := by
  obtain ⟨x, y⟩ := p
  obtain ⟨a, b, c⟩ := g
  go_enter Try.func143, Try.ntmps143
  go_wp2
  go_ret
  refine ⟨ret_bool ?_, ((Below.refl _ _).alloc (Nat.le_refl _) _).alloc (by simp) _⟩
  show decide (_ ≤ _) = _
  rw [wrap_val hp.1 hp.2 hg.1 hg.2]
  rfl

/-- the place that a closure of agreesWithAll has captured -/
def PlaceAt (w : World) (B : Nat) (p : Pl) : Prop := B < w.heap.size ∧ w.cell? ⟨B, 0, none⟩ = some (.int .i64 p.1) ∧ w.cell? ⟨B, 1, none⟩ = some (.int .i64 p.2)
theorem PlaceAt.below {w w' : World} {B : Nat} {p : Pl} (h : PlaceAt w B p) {N : Nat} (hN : w.heap.size ≤ N) (hb : Below N w w') : PlaceAt w' B p :=
  ⟨Nat.lt_of_lt_of_le h.1 hb.size, (hb.cell (p := ⟨B, 0, none⟩) (Nat.lt_of_lt_of_le h.1 hN)).trans h.2.1, (hb.cell (p := ⟨B, 1, none⟩) (Nat.lt_of_lt_of_le h.1 hN)).trans h.2.2⟩

set_option maxHeartbeats 400000 in
theorem notAgrees_any (B : Nat) (p : Pl) (g : Gl) (w : World) (hp : okP p) (hg : okG g) (hB : PlaceAt w B p) :
    Calls Try.prog 142 #[.agg #[.int .i64 g.1, .int .i64 g.2.1, .int .i64 g.2.2], .pointer (some ⟨B, 0, none⟩)] w fun e w' => e = .returned (.bool (!agr g p)) ∧ Below w.heap.size w w' := by
  obtain ⟨h1, h2, h3⟩ := hB
  go_enter Try.func142, Try.ntmps142
  go_wp2_with (go_at_call 143; refine (agrees_any p g _ hp hg).mono ?_; rintro e w' ⟨rfl, hb⟩)
  go_ret
  exact ⟨rfl, ((Below.refl _ _).alloc (Nat.le_refl _) _).trans (hb.mono (by simp))⟩

/-- the first k of a list are all let by -/
def AllYes {α : Type} (f : α → Bool) (l : List α) (k : Nat) : Prop := (l.take k).all f = true
theorem AllYes.step {α : Type} {f : α → Bool} {l : List α} {k : Nat} (h : AllYes f l k) (hk : k < l.length) (d : α) :
    (f (l.getD k d) = true → AllYes f l (k + 1)) ∧ (f (l.getD k d) = false → firstIdx (fun a => !f a) l = k) := by
  rw [getD_eq l k d hk]
  constructor
  · intro e; unfold AllYes at *; rw [all_take_succ f l k hk, h, e]; rfl
  · intro e; exact firstIdx_hit _ l k hk (by simpa [AllYes] using h) (by simp [e])
theorem AllYes.all {α : Type} {f : α → Bool} {l : List α} (h : AllYes f l l.length) : firstIdx (fun a => !f a) l = -1 :=
  firstIdx_miss _ l (by simpa [AllYes] using h)

theorem getD_mem {α : Type} (l : List α) (k : Nat) (d : α) (h : k < l.length) : l.getD k d ∈ l := by rw [getD_eq l k d h]; exact List.getElem_mem h

theorem RowG.at {w wr : World} {q : Option Addr} {gs : List Gl} (h : RowG w q gs) {k : Nat} (hk : k < gs.length) {N : Nat} (hN : w.heap.size ≤ N) (hb : Below N w wr) :
    ∃ b off, q = some ⟨b, off, none⟩ ∧ b < w.heap.size ∧ wr.cell? ⟨b, off + k * 3, none⟩ = some (.int .i64 (gs.getD k (0, 0, 0)).1) ∧
      wr.cell? ⟨b, off + k * 3 + 1, none⟩ = some (.int .i64 (gs.getD k (0, 0, 0)).2.1) ∧ wr.cell? ⟨b, off + k * 3 + 2, none⟩ = some (.int .i64 (gs.getD k (0, 0, 0)).2.2) := by
  have h' := h.below hN hb
  rcases h with rfl | ⟨b, off, rfl, hlt, _⟩
  · simp at hk
  · rcases h' with rfl | ⟨b', off', e, _, hc⟩
    · simp at hk
    · simp only [Option.some.injEq, Addr.mk.injEq] at e
      obtain ⟨rfl, rfl, _⟩ := e
      exact ⟨b, off, rfl, hlt, hc k hk⟩

set_option maxHeartbeats 400000 in
theorem indexG_any (B : Nat) (pt : Pl) (q : Option Addr) (cap : Nat) (gs : List Gl) (w : World) (hp : okP pt) (hg : ∀ g ∈ gs, okG g) (hB : PlaceAt w B pt) (hr : RowG w q gs) (hl : gs.length ≤ 1000000) :
    Calls Try.prog 151 #[.slice q gs.length cap, .func (.func 142) #[] #[.pointer (some ⟨B, 0, none⟩)]] w fun e w' => e = .returned (.int .i64 (firstIdx (fun g => !agr g pt) gs)) ∧ Below w.heap.size w w' := by
  go_enter Try.func151, Try.ntmps151
  go_wp2
  go_loopw [8] (fun i wr => ∃ k : Nat, k ≤ gs.length ∧ i = .int .i64 k ∧ AllYes (fun g => agr g pt) gs k ∧ Below w.heap.size w wr) (fun i _ => gs.length - (intOf i).toNat)
  case atStart => exact ⟨0, Nat.zero_le _, rfl, rfl, Below.refl _ _⟩
  case round =>
    obtain ⟨k, hk, rfl, hall, hbel⟩ := hrel
    by_cases hlt : k < gs.length
    · obtain ⟨b, off, rfl, hb, h1, h2, h3⟩ := hr.at hlt (Nat.le_refl _) hbel
      have hgk := hg _ (getD_mem gs k (0, 0, 0) hlt)
      have hst := hall.step hlt (0, 0, 0)
      have hBk := hB.below (Nat.le_refl _) hbel
      generalize gs.getD k (0, 0, 0) = g at h1 h2 h3 hgk hst
      go_wp2_with (go_at_call 142; refine (notAgrees_any B pt g _ hp hgk hBk).mono ?_; rintro e w' ⟨rfl, hb'⟩)
      · have hf : agr g pt = false := by simpa using (by assumption : (!agr g pt) = true)
        go_ret
        exact ⟨ret_int (hst.2 hf).symm, hbel.trans (hb'.mono hbel.size)⟩
      · have hf : agr g pt = true := by simpa using (by assumption : (!agr g pt) = false)
        go_roundw
        case rel => exact ⟨k + 1, hlt, by go_num, hst.1 hf, hbel.trans (hb'.mono hbel.size)⟩
        case measure => simp [intOf]; omega
    · obtain rfl : k = gs.length := by omega
      go_wp2
      go_ret
      exact ⟨ret_int hall.all.symm, hbel⟩

/-- the list is let by as a whole -/
def agrAll (gs : List Gl) (p : Pl) : Bool := gs.all fun g => agr g p

theorem agrAll_eq (gs : List Gl) (p : Pl) : (!decide (0 ≤ firstIdx (fun g => !agr g p) gs)) = agrAll gs p := by
  rw [firstIdx_any, ← List.not_all_eq_any_not, Bool.not_not, agrAll]

set_option maxHeartbeats 400000 in
theorem containsG_any (B : Nat) (pt : Pl) (q : Option Addr) (cap : Nat) (gs : List Gl) (w : World) (hp : okP pt) (hg : ∀ g ∈ gs, okG g) (hB : PlaceAt w B pt) (hr : RowG w q gs) (hl : gs.length ≤ 1000000) :
    Calls Try.prog 133 #[.slice q gs.length cap, .func (.func 142) #[] #[.pointer (some ⟨B, 0, none⟩)]] w fun e w' => e = .returned (.bool (decide (0 ≤ firstIdx (fun g => !agr g pt) gs))) ∧ Below w.heap.size w w' := by
  go_enter Try.func133, Try.ntmps133
  go_wp2_with (go_at_call 151; refine (indexG_any B pt q cap gs _ hp hg hB hr hl).mono ?_; rintro e w' ⟨rfl, hb⟩)
  go_ret
  exact ⟨rfl, hb⟩

set_option maxHeartbeats 400000 in
theorem agreesAll_any (pt : Pl) (q : Option Addr) (cap : Nat) (gs : List Gl) (w : World) (hp : okP pt) (hg : ∀ g ∈ gs, okG g) (hr : RowG w q gs) (hl : gs.length ≤ 1000000) :
    Calls Try.prog 96 #[.agg #[.int .i64 pt.1, .int .i64 pt.2], .slice q gs.length cap] w fun e w' => e = .returned (.bool (agrAll gs pt)) ∧ Below w.heap.size w w' := by
  have hb0 : Below w.heap.size w (w.alloc (.cells #[.int .i64 pt.1, .int .i64 pt.2] 26)) := (Below.refl _ _).alloc (Nat.le_refl _) _
  have hr' := hr.below (Nat.le_refl _) hb0
  have hB : PlaceAt (w.alloc (.cells #[.int .i64 pt.1, .int .i64 pt.2] 26)) w.heap.size pt := ⟨by simp, by simp, by simp⟩
  go_enter Try.func96, Try.ntmps96
  go_wp2_with (go_at_call 133; refine (containsG_any w.heap.size pt q cap gs _ hp hg hB hr' hl).mono ?_; rintro e w' ⟨rfl, hb⟩)
  go_ret
  exact ⟨ret_bool (agrAll_eq gs pt), hb0.trans (hb.mono (by simp))⟩
end Go.Proofs.Ytcalipoknbbaaaa
