/- slices.SortFunc laid at this program (places); the comparison of Hull. -/
import Derived.Test.YtcalipoknbbaaaaCent
import Derived.Shelf.SlSortCmp.SmallK
import Derived.Shelf.Small.Bits
import Derived.Shelf.Lay
import Derived.Ground.SlsfProg
import Derived.Ground.NamesProg
namespace Go.Proofs
open Go.Shelf Go.RowKit Go.Lib Go.Sort
shelf_lay_g SlLaysF0.n6 Slsf 6 at Try 85 as Try.sortPl
shelf_lay Lays.n125 Nm 125 at Try as Try.bitsLen
theorem Try.hlen (n : Nat) (W : World) (h : n ≤ 12) : Calls Try.prog 140 #[.int .u64 n] W fun e w' => (∃ l : Int, e = .returned (.int .i64 l)) ∧ w' = W :=
  (Any.bits_Len Try.bitsLen n W (by omega) (by omega)).mono fun _ _ ⟨he, hw⟩ => ⟨⟨_, he⟩, hw⟩
end Go.Proofs

namespace Go.Proofs.Ytcalipoknbbaaaa
open Go.RowKit
open Go.Sort (putRowK size_putRowK cell?_putRowK_other)

set_option maxHeartbeats 400000 in
theorem turn_exact (o p q : Pl) (w : World) (ho : okP o) (hp : okP p) (hq : okP q) :
    Calls Try.prog 117 #[.agg #[.int .i64 o.1, .int .i64 o.2], .agg #[.int .i64 p.1, .int .i64 p.2], .agg #[.int .i64 q.1, .int .i64 q.2]] w fun e w' => e = .returned (.int .i64 (turnP o p q)) ∧
      w' = ((w.alloc (.cells #[.int .i64 o.1, .int .i64 o.2] 26)).alloc (.cells #[.int .i64 p.1, .int .i64 p.2] 26)).alloc (.cells #[.int .i64 q.1, .int .i64 q.2] 26) := by
  obtain ⟨⟨o1, o2⟩, o3, o4⟩ := ho
  obtain ⟨⟨p1, p2⟩, p3, p4⟩ := hp
  obtain ⟨⟨q1, q2⟩, q3, q4⟩ := hq
  have m1 := mul_small (x := p.1 - o.1) (y := q.2 - o.2) (a := 2000) (b := 2000) ⟨by omega, by omega⟩ ⟨by omega, by omega⟩
  have m2 := mul_small (x := p.2 - o.2) (y := q.1 - o.1) (a := 2000) (b := 2000) ⟨by omega, by omega⟩ ⟨by omega, by omega⟩
  obtain ⟨m11, m12⟩ := m1
  obtain ⟨m21, m22⟩ := m2
  go_enter Try.func117, Try.ntmps117
  go_wp2
  go_ret
  exact ⟨ret_int rfl, rfl⟩

/-- the comparison of Hull: which of two places lies to the right, seen from the first corner -/
def cfT (f p q : Pl) : Int := turnP f q p

set_option maxHeartbeats 400000 in
theorem hull1_any (B : Nat) (f p q : Pl) (w : World) (hB : B < w.heap.size) (hf1 : w.cell? ⟨B, 0, none⟩ = some (.int .i64 f.1)) (hf2 : w.cell? ⟨B, 1, none⟩ = some (.int .i64 f.2)) (hf : okP f) (hp : okP p) (hq : okP q) :
    Calls Try.prog 116 #[.agg #[.int .i64 p.1, .int .i64 p.2], .agg #[.int .i64 q.1, .int .i64 q.2], .pointer (some ⟨B, 0, none⟩)] w fun e w' => e = .returned (.int .i64 (cfT f p q)) ∧ ∃ n os', w' = Sort.grow (w.drewN n) os' := by
  have hcon := fun W => turn_exact f q p W hf hq hp
  have HC := Lib.hid hcon
  clear hcon
  go_enter Try.func116, Try.ntmps116
  go_wp2_with (go_at_call 117; refine (HC.out _).mono ?_; rintro e w' ⟨rfl, rfl⟩)
  go_ret
  exact ⟨rfl, 0, _, by rw [Sort.alloc_eq_grow, Sort.alloc_eq_grow, Sort.alloc_eq_grow, Sort.alloc_eq_grow, Sort.alloc_eq_grow, Sort.grow_grow, Sort.grow_grow, Sort.grow_grow, Sort.grow_grow]; rfl⟩

/-- the places behind the first corner -/
abbrev Aft (f : Pl) : Type := { p : Pl // okP p ∧ beforeP f p = true }
theorem aft_wit {f : Pl} (hf : onG 7 f = true) : okP (f.1 + 1, f.2) ∧ beforeP f (f.1 + 1, f.2) = true := by
  simp only [onG, decide_eq_true_eq] at hf
  refine ⟨⟨⟨by simp only; omega, by simp only; omega⟩, ⟨by simp only; omega, by simp only; omega⟩⟩, ?_⟩
  simp [beforeP]
  omega
def encA (f : Pl) (x : Aft f) : List Value := [.int .i64 x.1.1, .int .i64 x.1.2]
def cfA (f : Pl) (x y : Aft f) : Int := cfT f x.1 y.1

theorem cmpLays (f : Pl) [Inhabited (Aft f)] (B blk off size : Nat) (w : World) (hB : B < w.heap.size) (hne : B ≠ blk) (hf1 : w.cell? ⟨B, 0, none⟩ = some (.int .i64 f.1)) (hf2 : w.cell? ⟨B, 1, none⟩ = some (.int .i64 f.2)) (hf : okP f) :
    CmpLays Try.prog 116 #[.pointer (some ⟨B, 0, none⟩)] (encA f) 2 (cfA f) blk off size w := by
  intro m os dk _ x y
  have hcell : ∀ c, (sortWorldK (encA f) 2 w blk off m dk os).cell? ⟨B, c, none⟩ = w.cell? ⟨B, c, none⟩ := by
    intro c
    unfold sortWorldK
    have h1 : B < (putRowK (encA f) 2 (Sort.ahead w m) blk off dk).heap.size := by rw [size_putRowK]; exact hB
    have h2 : (Sort.grow (putRowK (encA f) 2 (Sort.ahead w m) blk off dk) os).cell? ⟨B, c, none⟩ = (putRowK (encA f) 2 (Sort.ahead w m) blk off dk).cell? ⟨B, c, none⟩ := by
      simp only [World.cell?, Sort.grow, Array.getElem?_append_left h1]
    rw [h2, cell?_putRowK_other _ _ _ _ _ _ _ hne]
    rfl
  refine hull1_any B f x.1 y.1 _ ?_ ?_ ?_ hf x.2.1 y.2.1
  · exact Nat.lt_of_lt_of_le hB (size_sortWorldK_c _ _ _ _ _ _ _ _)
  · rw [hcell]; exact hf1
  · rw [hcell]; exact hf2
end Go.Proofs.Ytcalipoknbbaaaa
