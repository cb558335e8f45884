/- Chapter 7 and its law: fractions by their values, reaches of loads, Harmonic, slices.Repeat (one text of several). -/
import Derived.Test.YtffblmhaoekkgaaPrpAK
import Derived.Test.YtffblmhaoekkgaaPrpAB
import Derived.Test.YtffblmhaoekkgaaPrpAG
import Derived.Laws.CopyOwn
import Derived.Deep.RegionLaw
import Derived.Deep.RegionHeld3
import Derived.Deep.OwnRows

/- Chapter 7's law: where a drawn region stands: new variables, and rows. -/
namespace Go.Proofs.Ytffblmhaoekkgaa.prp
open Go.RowKit
set_option linter.unusedSimpArgs false
set_option linter.unusedVariables false

theorem Hc.goN {w W W' : World} {rows : List (Option Addr × List Value)} {boxes : List (Nat × List Int)} {cells : List (Nat × Value)} (h : Hc w W rows boxes cells) {W2 : World} (h1 : Below W.heap.size W W2) : Hc w W2 rows boxes cells := h.go h1
theorem Frs.one {W : World} {bs : List (Nat × Fr)} (h : Frs W bs) (a b : Int) (t : TypeId) :
    Frs (W.alloc (.cells #[.int .i64 a, .int .i64 b] t)) ((W.heap.size, (a, b)) :: bs) ∧ Below W.heap.size W (W.alloc (.cells #[.int .i64 a, .int .i64 b] t)) := by
  have c0 := Cell2.new W W.heap.size rfl (.int .i64 a) (.int .i64 b) t
  have hb0 : Below W.heap.size W (W.alloc (.cells #[.int .i64 a, .int .i64 b] t)) := (Below.refl _ _).alloc (Nat.le_refl _) _
  exact ⟨(h.go hb0).add c0, hb0⟩
theorem fr1_ok (e : Int) (h : -50000000000 ≤ e ∧ e ≤ 50000000000) : FrOk (e, 1) := ⟨h.1, h.2, by show (0 : Int) < 1; omega, by show (1 : Int) ≤ 500; omega, by simp⟩
theorem five {xs : List Int} (h : xs.length = 5) : ∃ a b c d e, xs = [a, b, c, d, e] := by
  match xs, h with
  | [a, b, c, d, e], _ => exact ⟨a, b, c, d, e, rfl⟩

/-- new variables of two cells -/
def Al (N : Nat) (W : World) (bs : List (Nat × Fr)) : Prop := (bs.map fun p => p.1).Nodup ∧ ∀ p ∈ bs, N ≤ p.1 ∧ Cell2 W p.1 (.int .i64 p.2.1) (.int .i64 p.2.2)
/-- where a drawn region stands: new variables, and rows -/
structure Jn (W0 W : World) (rows : List (Option Addr × List Value)) (bs : List (Nat × Fr)) : Prop where
  bel : Below W0.heap.size W0 W
  al : Al W0.heap.size W bs
  row : ∀ p ∈ rows, RowV W p.1 p.2
section
variable {W0 W W' : World} {rows : List (Option Addr × List Value)} {bs : List (Nat × Fr)}
theorem Jn.go (h : Jn W0 W rows bs) (hb : Below W.heap.size W W') : Jn W0 W' rows bs :=
  ⟨h.bel.on hb, ⟨h.al.1, fun B hB => ⟨(h.al.2 B hB).1, (h.al.2 B hB).2.below (h.al.2 B hB).2.1 hb⟩⟩, fun p hp => (h.row p hp).below (Nat.le_refl _) hb⟩
theorem Jn.drew (h : Jn W0 W rows bs) : Jn W0 W.drew rows bs := h.go (Below.refl _ _).drew
theorem Jn.add (h : Jn W0 W rows bs) {q : Option Addr} {vs : List Value} (hr : RowV W q vs) : Jn W0 W ((q, vs) :: rows) bs :=
  ⟨h.bel, h.al, fun p hp => by
    rcases List.mem_cons.1 hp with rfl | hp
    · exact hr
    · exact h.row p hp⟩
theorem Jn.new (h : Jn W0 W rows bs) {x y : Int} : Jn W0 (W.alloc (.cells #[.int .i64 x, .int .i64 y] 51)) rows ((W.heap.size, (x, y)) :: bs) := by
  have hb : Below W.heap.size W (W.alloc (.cells #[.int .i64 x, .int .i64 y] 51)) := (Below.refl _ _).alloc (Nat.le_refl _) _
  have h2 := h.go hb
  refine ⟨h2.bel, ⟨List.nodup_cons.2 ⟨fun hm => ?_, h.al.1⟩, fun B hB => ?_⟩, h2.row⟩
  · obtain ⟨p, hp, e⟩ := List.mem_map.1 hm
    have := (h.al.2 p hp).2.1
    rw [e] at this
    exact Nat.lt_irrefl _ this
  · rcases List.mem_cons.1 hB with rfl | hB
    · exact ⟨h.bel.size, Cell2.new W _ rfl _ _ 51⟩
    · exact h2.al.2 B hB
theorem Jn.newB (h : Jn W0 W rows bs) {x y : Int} {B : Nat} (hB : B = W.heap.size) : Jn W0 (W.alloc (.cells #[.int .i64 x, .int .i64 y] 51)) rows ((B, (x, y)) :: bs) := by subst hB; exact h.new
theorem Jn.set {B : Nat} {x : Fr} (h : Jn W0 W rows ((B, x) :: bs)) {a b : Int} : Jn W0 ((W.setCell ⟨B, 0, none⟩ (.int .i64 a)).setCell ⟨B, 1, none⟩ (.int .i64 b)) [] ((B, (a, b)) :: bs) := by
  have hB := h.al.2 (B, x) (by simp)
  have hn := List.nodup_cons.1 h.al.1
  refine ⟨(h.bel.setCell (p := ⟨B, 0, none⟩) hB.1 _).setCell (p := ⟨B, 1, none⟩) hB.1 _, ⟨h.al.1, fun p hp => ?_⟩, fun p hp => by simp at hp⟩
  rcases List.mem_cons.1 hp with rfl | hp
  · exact ⟨hB.1, hB.2.set _ _⟩
  · have h2 := h.al.2 p (List.mem_cons_of_mem _ hp)
    refine ⟨h2.1, h2.2.other (fun e => hn.1 ?_) _ _⟩
    rw [← e]; exact List.mem_map.2 ⟨p, hp, rfl⟩
theorem Jn.swap {p p' : Nat × Fr} (h : Jn W0 W rows (p :: p' :: bs)) : Jn W0 W rows (p' :: p :: bs) :=
  ⟨h.bel, ⟨show (p'.1 :: p.1 :: bs.map fun p => p.1).Nodup from (List.Perm.swap p'.1 p.1 (bs.map fun p => p.1)).nodup (show (p.1 :: p'.1 :: bs.map fun p => p.1).Nodup from h.al.1), fun r hr => h.al.2 r (by
    simp only [List.mem_cons] at hr ⊢
    rcases hr with hr | hr | hr
    · exact .inr (.inl hr)
    · exact .inl hr
    · exact .inr (.inr hr))⟩, h.row⟩
theorem Jn.one {p : Nat × Fr} (h : Jn W0 W rows (p :: bs)) : Cell2 W p.1 (.int .i64 p.2.1) (.int .i64 p.2.2) := (h.al.2 p (by simp)).2
theorem Jn.ne {p p' : Nat × Fr} (h : Jn W0 W rows (p :: p' :: bs)) : p.1 ≠ p'.1 := fun e => (List.nodup_cons.1 h.al.1).1 (by simp [e])
theorem Jn.fin1 {B : Nat} {a b : Int} (h : Jn W0 W rows [(B, (a, b))]) : Hid (Cell2 W B (.int .i64 a) (.int .i64 b)) ∧ Hid (Below W0.heap.size W0 W) := ⟨Lib.hid (h.al.2 (B, (a, b)) (by simp)).2, Lib.hid h.bel⟩
/-- what a region leaves -/
def JnEnd (W0 W : World) (BL BM : Nat) (a b : Int) : Prop := BL ≠ BM ∧ W0.heap.size ≤ BL ∧ W0.heap.size ≤ BM ∧ Hid (Cell2 W BL (.int .i64 a) (.int .i64 b)) ∧ Hid (Cell2 W BM (.int .i64 a) (.int .i64 b)) ∧ Hid (Below W0.heap.size W0 W)
theorem Jn.fin {BL BM : Nat} {a b : Int} (h : Jn W0 W rows [(BL, (a, b)), (BM, (a, b))]) : JnEnd W0 W BL BM a b := by
  have h1 := h.al.2 (BL, (a, b)) (by simp)
  have h2 := h.al.2 (BM, (a, b)) (by simp)
  have hn := List.nodup_cons.1 h.al.1
  exact ⟨fun e => hn.1 (by simp [e]), h1.1, h2.1, Lib.hid h1.2, Lib.hid h2.2, Lib.hid h.bel⟩
end
theorem frac2 (a b : Int) (w : World) : Calls Try.prog 32 #[.int .i64 a, .int .i64 b] w fun e w' => e = .returned (.agg #[.int .i64 a, .int .i64 b]) ∧ Below w.heap.size w w' := frac_any a b w
end Go.Proofs.Ytffblmhaoekkgaa.prp

/- Chapter 7, plainly: fractions by their values; the sum of parts of 1; reaches. -/
namespace Go.Proofs.Ytffblmhaoekkgaa.prp
open Go.RowKit
set_option linter.unusedSimpArgs false
set_option linter.unusedVariables false

/-- x is the fraction of a and b in lowest terms -/
structure FrV (x : Fr) (a b : Int) : Prop where
  pos : 0 < x.2
  gcd : Int.gcd x.1 x.2 = 1
  val : x.1 * b = a * x.2
def lowF (a b : Int) : Fr := (lowN a b, lowD a b)
def plusF (x y : Fr) : Fr := lowF (x.1 * y.2 + y.1 * x.2) (x.2 * y.2)
theorem FrV.low {a b : Int} (hb : 0 < b) : FrV (lowF a b) a b := ⟨(low_bd hb).2.1, low_gcd hb, low_val hb⟩
theorem FrV.plus {x y : Fr} {a b c d : Int} (h : FrV x a b) (h' : FrV y c d) : FrV (plusF x y) (a * d + c * b) (b * d) := by
  have hK : 0 < x.2 * y.2 := Int.mul_pos h.pos h'.pos
  have L := FrV.low (a := x.1 * y.2 + y.1 * x.2) hK
  refine ⟨L.pos, L.gcd, ?_⟩
  have h1 := h.val
  have h2 := h'.val
  have h3 := L.val
  unfold plusF
  generalize lowF (x.1 * y.2 + y.1 * x.2) (x.2 * y.2) = p at *
  have hK2 : x.2 * y.2 ≠ 0 := by omega
  clear L h h'
  generalize x.1 = x1 at *
  generalize x.2 = x2 at *
  generalize y.1 = y1 at *
  generalize y.2 = y2 at *
  generalize p.1 = p1 at *
  generalize p.2 = p2 at *
  apply Int.eq_of_mul_eq_mul_right hK2
  grind
theorem FrV.eq {x y : Fr} {a b a' b' : Int} (h : FrV x a b) (h' : FrV y a' b') (hb : 0 < b) (hb' : 0 < b') (e : a * b' = a' * b) : x = y := by
  have hK : b * b' ≠ 0 := by have := Int.mul_pos hb hb'; omega
  have h1 := h.val
  have h2 := h'.val
  have he : x.1 * y.2 = y.1 * x.2 := by
    generalize x.1 = x1 at *
    generalize x.2 = x2 at *
    generalize y.1 = y1 at *
    generalize y.2 = y2 at *
    apply Int.eq_of_mul_eq_mul_right hK
    grind
  exact low_eq h.pos h'.pos h.gcd h'.gcd (by unfold leF; omega) (by unfold leF; omega)
theorem FrV.one (k : Int) (hk : 0 < k) : FrV (1, k) 1 k := ⟨hk, by simp, by simp⟩
theorem FrV.int (e : Int) : FrV (e, 1) e 1 := ⟨by show (0 : Int) < 1; omega, by simp, by simp⟩

/-! the sum of parts of 1 -/
def harS : Nat → Fr
  | 0 => (0, 1)
  | k + 1 => plusF (harS k) (1, (k : Int) + 1)
def facS : Nat → Int × Int
  | 0 => (0, 1)
  | k + 1 => ((facS k).1 * ((k : Int) + 1) + (facS k).2, (facS k).2 * ((k : Int) + 1))
theorem har_val : ∀ k, FrV (harS k) (facS k).1 (facS k).2 ∧ 0 < (facS k).2
  | 0 => ⟨FrV.int 0, by decide⟩
  | k + 1 => by
    obtain ⟨h1, h2⟩ := har_val k
    have h := h1.plus (FrV.one ((k : Int) + 1) (by omega))
    rw [Int.one_mul] at h
    exact ⟨h, Int.mul_pos h2 (by omega)⟩
theorem fac_bd : ∀ k : Nat, k ≤ 12 → (0 ≤ (facS k).1 ∧ (facS k).1 ≤ 2000000000) ∧ (facS k).2 ≤ 2000000000 := by
  intro k hk
  have : ∀ k ∈ List.range 13, (0 ≤ (facS k).1 ∧ (facS k).1 ≤ 2000000000) ∧ (facS k).2 ≤ 2000000000 := by decide
  exact this k (List.mem_range.2 (by omega))
theorem low_abs {a b : Int} (hb : 0 < b) (A : Int) (ha : -A ≤ a ∧ a ≤ A) : -A ≤ lowN a b ∧ lowN a b ≤ A := by
  have := (low_bd (a := a) hb).1
  omega
theorem plusF_bd {x y : Fr} {A D A' D' : Int} (px : 0 < x.2) (py : 0 < y.2) (hx : -A ≤ x.1 ∧ x.1 ≤ A) (dx : x.2 ≤ D) (hy : -A' ≤ y.1 ∧ y.1 ≤ A') (dy : y.2 ≤ D') :
    (-(A * D' + A' * D) ≤ (plusF x y).1 ∧ (plusF x y).1 ≤ A * D' + A' * D) ∧ 0 < (plusF x y).2 ∧ (plusF x y).2 ≤ D * D' := by
  have hK : 0 < x.2 * y.2 := Int.mul_pos px py
  have p1 := prod_bd (a := x.1) (b := y.2) (A := A) (B := D') hx ⟨by omega, dy⟩
  have p2 := prod_bd (a := y.1) (b := x.2) (A := A') (B := D) hy ⟨by omega, dx⟩
  have p3 := prod_bd (a := x.2) (b := y.2) (A := D) (B := D') ⟨by omega, dx⟩ ⟨by omega, dy⟩
  have l1 := low_abs hK (A * D' + A' * D) (a := x.1 * y.2 + y.1 * x.2) ⟨by omega, by omega⟩
  have l2 := low_bd (a := x.1 * y.2 + y.1 * x.2) hK
  exact ⟨l1, l2.2.1, by show lowD _ _ ≤ _; omega⟩
theorem har_bd : ∀ k : Nat, k ≤ 12 → ((-2000000000 ≤ (harS k).1 ∧ (harS k).1 ≤ 2000000000) ∧ 0 < (harS k).2 ∧ (harS k).2 ≤ 2000000000) := by
  intro k hk
  have : ∀ k ∈ List.range 13, ((-2000000000 ≤ (harS k).1 ∧ (harS k).1 ≤ 2000000000) ∧ 0 < (harS k).2 ∧ (harS k).2 ≤ 2000000000) := by decide +kernel
  exact this k (List.mem_range.2 (by omega))

/-! reaches -/
def lcS (xs : List Wn) : Nat → Fr
  | 0 => (0, 1)
  | k + 1 => plusF (lcS xs k) (lowF ((xs.getD k zw).1.half * (xs.getD k zw).2) (wsum (xs.drop k)))
def balS (xs : List Wn) (k : Nat) : Fr := lowF ((xs.getD k zw).1.half * wsum (xs.drop (k + 1))) ((xs.getD k zw).2 + wsum (xs.drop (k + 1)))
def reachS (xs : List Wn) (k : Nat) : Fr := plusF (plusF (lcS xs k) (balS xs k)) ((xs.getD k zw).1.half, 1)
/-- stones of loads -/
def okL (xs : List Wn) : Prop := xs.length ≤ 5 ∧ ∀ x ∈ xs, (0 ≤ x.1.half ∧ x.1.half ≤ 4194304) ∧ (-100000000 ≤ x.1.at_ ∧ x.1.at_ ≤ 100000000) ∧ 1 ≤ x.2 ∧ x.2 ≤ 9
theorem okL.okW {xs : List Wn} (h : okL xs) : okW xs := ⟨h.1, fun x hx => by have := h.2 x hx; omega⟩
theorem okL.drop {xs : List Wn} (h : okL xs) (k : Nat) : okL (xs.drop k) := ⟨by simp; have := h.1; omega, fun x hx => h.2 x (List.mem_of_mem_drop hx)⟩
theorem wsum_cons (x : Wn) (xs : List Wn) : wsum (x :: xs) = x.2 + wsum xs := by simp [wsum]
theorem wsum_ge : ∀ {xs : List Wn}, (∀ x ∈ xs, 1 ≤ x.2 ∧ x.2 ≤ 9) → 0 ≤ wsum xs ∧ wsum xs ≤ 9 * xs.length
  | [], _ => by simp [wsum]
  | x :: xs, h => by
    have ih := wsum_ge (xs := xs) fun y hy => h y (by simp [hy])
    have hx := h x (by simp)
    rw [wsum_cons]
    simp only [List.length_cons]
    omega
theorem drop_getD (xs : List Wn) (k : Nat) (hk : k < xs.length) : xs.drop k = xs.getD k zw :: xs.drop (k + 1) := by
  rw [List.drop_eq_getElem_cons hk]
  congr 1
  rw [List.getD_eq_getElem?_getD, List.getElem?_eq_getElem hk]; rfl
theorem okL.get {xs : List Wn} (h : okL xs) {k : Nat} (hk : k < xs.length) : (0 ≤ (xs.getD k zw).1.half ∧ (xs.getD k zw).1.half ≤ 4194304) ∧ 1 ≤ (xs.getD k zw).2 ∧ (xs.getD k zw).2 ≤ 9 := by
  have := h.2 _ (getD_mem xs k zw hk)
  omega
theorem okL.sum {xs : List Wn} (h : okL xs) (k : Nat) : 0 ≤ wsum (xs.drop k) ∧ wsum (xs.drop k) ≤ 45 := by
  have := wsum_ge (xs := xs.drop k) fun x hx => by have := h.2 x (List.mem_of_mem_drop hx); omega
  have hl := h.1
  simp only [List.length_drop] at this
  omega
theorem okL.sum_pos {xs : List Wn} (h : okL xs) {k : Nat} (hk : k < xs.length) : 1 ≤ wsum (xs.drop k) := by
  rw [drop_getD xs k hk, wsum_cons]
  have h1 := h.get hk
  have h2 := h.sum (k + 1)
  omega
def aB : Nat → Int
  | 0 => 0
  | k + 1 => aB k * 45 + 37748736 * 45 ^ k
theorem lc_bd {xs : List Wn} (h : okL xs) : ∀ k, k < xs.length → ((-(aB k) ≤ (lcS xs k).1 ∧ (lcS xs k).1 ≤ aB k) ∧ 0 < (lcS xs k).2 ∧ (lcS xs k).2 ≤ 45 ^ k)
  | 0, _ => by simp [lcS, aB]
  | k + 1, hk => by
    obtain ⟨h1, h2, h3⟩ := lc_bd h k (by omega)
    have hg := h.get (k := k) (by omega)
    have hs := h.sum_pos (k := k) (by omega)
    have hs2 := h.sum k
    have hp := prod_bd (a := (xs.getD k zw).1.half) (b := (xs.getD k zw).2) (A := 4194304) (B := 9) ⟨by omega, by omega⟩ ⟨by omega, by omega⟩
    have l1 := low_abs (a := (xs.getD k zw).1.half * (xs.getD k zw).2) (b := wsum (xs.drop k)) (by omega) 37748736 ⟨by omega, by omega⟩
    have l2 := low_bd (a := (xs.getD k zw).1.half * (xs.getD k zw).2) (b := wsum (xs.drop k)) (by omega)
    have := plusF_bd (y := lowF ((xs.getD k zw).1.half * (xs.getD k zw).2) (wsum (xs.drop k))) h2 l2.2.1 h1 h3 l1 (D' := 45) (by show lowD _ _ ≤ _; omega)
    rw [show (45 : Int) ^ (k + 1) = 45 ^ k * 45 from Int.pow_succ ..]
    exact this
theorem lc_bd4 {xs : List Wn} (h : okL xs) (k : Nat) (hk : k < xs.length) : (-700000000000000 ≤ (lcS xs k).1 ∧ (lcS xs k).1 ≤ 700000000000000) ∧ 0 < (lcS xs k).2 ∧ (lcS xs k).2 ≤ 4100625 := by
  have hb := lc_bd h k hk
  have h5 := h.1
  have hA : ∀ k ∈ List.range 5, aB k ≤ 700000000000000 ∧ (45 : Int) ^ k ≤ 4100625 := by decide
  have := hA k (List.mem_range.2 (by omega))
  omega
theorem bal_bd {xs : List Wn} (h : okL xs) (k : Nat) (hk : k < xs.length) : (-188743680 ≤ (balS xs k).1 ∧ (balS xs k).1 ≤ 188743680) ∧ 0 < (balS xs k).2 ∧ (balS xs k).2 ≤ 54 := by
  have hg := h.get hk
  have hs := h.sum (k + 1)
  have hp := prod_bd (a := (xs.getD k zw).1.half) (b := wsum (xs.drop (k + 1))) (A := 4194304) (B := 45) ⟨by omega, by omega⟩ ⟨by omega, by omega⟩
  have l1 := low_abs (a := (xs.getD k zw).1.half * wsum (xs.drop (k + 1))) (b := (xs.getD k zw).2 + wsum (xs.drop (k + 1))) (by omega) 188743680 ⟨by omega, by omega⟩
  have l2 := low_bd (a := (xs.getD k zw).1.half * wsum (xs.drop (k + 1))) (b := (xs.getD k zw).2 + wsum (xs.drop (k + 1))) (by omega)
  exact ⟨l1, l2.2.1, by show lowD _ _ ≤ _; omega⟩
end Go.Proofs.Ytffblmhaoekkgaa.prp

/- Package prop, the walks: Harmonic, balance. -/
namespace Go.Proofs.Ytffblmhaoekkgaa.prp
open Go.RowKit
set_option linter.unusedSimpArgs false
set_option linter.unusedVariables false

set_option maxRecDepth 100000 in
set_option maxHeartbeats 4000000 in
theorem Harmonic_ok (n : Nat) (w : World) (h1 : 1 ≤ n) (h12 : n ≤ 12) :
    Calls Try.prog 48 #[.int .i64 n] w fun e w' => e = .returned (.tuple #[frP (harS n), .int .i64 0]) ∧ Below w.heap.size w w' := by
  have hf : isF (n : Int) 1 12 = true := by unfold isF; simp; omega
  have hb0 : Below w.heap.size w ((w.alloc (.cells #[.int .i64 0, .int .i64 0] 51)).alloc (.cells #[.int .i64 0, .int .i64 1] 51)) := ((Below.refl _ _).alloc (Nat.le_refl _) _).alloc (by simp) _
  have c2 : Cell2 ((w.alloc (.cells #[.int .i64 0, .int .i64 0] 51)).alloc (.cells #[.int .i64 0, .int .i64 1] 51)) w.heap.size (.int .i64 0) (.int .i64 0) := (Cell2.new w w.heap.size rfl _ _ 51).below (N := w.heap.size + 1) (by omega) ((Below.refl _ _).alloc (by simp) _)
  have c4 : Cell2 ((w.alloc (.cells #[.int .i64 0, .int .i64 0] 51)).alloc (.cells #[.int .i64 0, .int .i64 1] 51)) (w.heap.size + 1) (.int .i64 0) (.int .i64 1) := Cell2.new _ (w.heap.size + 1) (by simp) _ _ 51
  have HB0 := Lib.hid hb0
  have C2 := Lib.hid c2
  have C4 := Lib.hid c4
  clear hb0 c2 c4
  go_enter Try.func48, Try.ntmps48
  go_upto_region 4 with (go_at_call 78; refine (isFrom_any _ _ _ _).mono ?_; rw [hf]; rintro e w1 ⟨rfl, rfl⟩)
  generalize hB2 : w.heap.size = B2 at *
  generalize ((w.alloc (.cells #[.int .i64 0, .int .i64 0] 51)).alloc (.cells #[.int .i64 0, .int .i64 1] 51)) = W0 at *
  have hne : B2 ≠ B2 + 1 := by omega
  go_wp2
  go_loopw [5] (fun i wr => ∃ k : Nat, k ≤ n ∧ i = .int .i64 ((k : Int) + 1) ∧ Hid (Cell2 wr (B2 + 1) (.int .i64 (harS k).1) (.int .i64 (harS k).2)) ∧ Hid (Cell2 wr B2 (.int .i64 0) (.int .i64 0)) ∧ Hid (Below B2 w wr)) (fun i _ => n + 1 - (intOf i).toNat)
  case atStart => exact ⟨0, Nat.zero_le _, rfl, C4, C2, HB0⟩
  case round =>
    obtain ⟨k, hk, rfl, D4, D2, DB⟩ := hrel
    by_cases hlt : k < n
    · have hle : (k : Int) + 1 ≤ (n : Int) := by omega
      have hb := har_bd k (by omega)
      have hp := fun W => plus_any (harS k).1 (harS k).2 1 ((k : Int) + 1) W (by
        have p1 := prod_bd (a := (harS k).1) (b := (k : Int) + 1) (A := 2000000000) (B := 13) ⟨by omega, by omega⟩ ⟨by omega, by omega⟩
        have p2 := prod_bd (a := (harS k).2) (b := (k : Int) + 1) (A := 2000000000) (B := 13) ⟨by omega, by omega⟩ ⟨by omega, by omega⟩
        have p3 := Int.mul_pos hb.2.1 (show (0 : Int) < (k : Int) + 1 by omega)
        unfold smallP
        rw [Int.one_mul]
        omega)
      have e1 : (harS (k + 1)).1 = lowN ((harS k).1 * ((k : Int) + 1) + 1 * (harS k).2) ((harS k).2 * ((k : Int) + 1)) := rfl
      have e2 : (harS (k + 1)).2 = lowD ((harS k).1 * ((k : Int) + 1) + 1 * (harS k).2) ((harS k).2 * ((k : Int) + 1)) := rfl
      rw [← e1, ← e2] at hp
      unfold frV at hp
      have k1 : ((k : Int) + 1).toNat = k + 1 := by omega
      have k2 : IntKind.i64.wrap ((k : Int) + 1 + 1) = ((k + 1 : Nat) : Int) + 1 := by rw [IntWalk.i64_in _ ⟨by omega, by omega⟩]; omega
      have HP := Lib.hid hp
      have HK2 := Lib.hid k2
      generalize hy : (harS (k + 1)) = y at *
      generalize (harS k) = x at *
      obtain ⟨x1, x2⟩ := x
      obtain ⟨y1, y2⟩ := y
      have HY := Lib.hid hy
      clear hy
      dsimp only at HP D4
      obtain ⟨y0, yy1, yy2, y3, y4⟩ := D4.out
      have k3 : -100 ≤ (k : Int) + 1 + 1 ∧ (k : Int) + 1 + 1 ≤ 100 := by omega
      clear hp e1 e2 hb k2
      go_wp2_with (go_at_call 84; refine (HP.out _).mono ?_; rintro e w2 ⟨rfl, hb2⟩; have E4 := Lib.hid (D4.out.below D4.out.1 hb2); have E2 := Lib.hid (D2.out.below D2.out.1 hb2); have EB := Lib.hid (DB.out.trans (hb2.mono (below_size2 DB.out (Nat.le_of_eq hB2.symm)))); clear hb2; obtain ⟨z0, z1, z2, z3, z4⟩ := E4.out)
      go_roundw
      case rel => exact ⟨k + 1, hlt, by rw [show ((k + 1 : Nat) : Int) = (k : Int) + 1 by omega], by rw [HY.out]; exact Lib.hid (E4.out.set _ _), Lib.hid (E2.out.other hne _ _), Lib.hid ((EB.out.setCell (p := ⟨B2 + 1, 0, none⟩) (by show B2 ≤ B2 + 1; omega) _).setCell (p := ⟨B2 + 1, 1, none⟩) (by show B2 ≤ B2 + 1; omega) _)⟩
      case measure => simp [intOf]; omega
    · obtain rfl : k = n := by omega
      have hle : ¬ (k : Int) + 1 ≤ (k : Int) := by omega
      generalize hx : harS k = x at *
      obtain ⟨x1, x2⟩ := x
      dsimp only at D4
      obtain ⟨y0, y1, y2, y3, y4⟩ := D4.out
      obtain ⟨z0, z1, z2, z3, z4⟩ := D2.out
      go_wp2
      obtain ⟨m0, m1, m2, _, _⟩ := D2.out.set (.int .i64 x1) (.int .i64 x2)
      have hbn := (DB.out.setCell (p := ⟨B2, 0, none⟩) (Nat.le_refl _) (.int .i64 x1)).setCell (p := ⟨B2, 1, none⟩) (Nat.le_refl _) (.int .i64 x2)
      generalize ((wr.setCell ⟨B2, 0, none⟩ (.int .i64 x1)).setCell ⟨B2, 1, none⟩ (.int .i64 x2)) = W at *
      refine bodyPost_ret (by simp [results, Try.results48, go_sem, m1, m2]; try rfl) rfl ?_
      exact ⟨rfl, hbn⟩
set_option maxRecDepth 100000 in
set_option maxHeartbeats 4000000 in
theorem Harmonic_no (n : Nat) (w : World) (h12 : 12 < n) (hn : n < 1000) :
    Calls Try.prog 48 #[.int .i64 n] w fun e w' => e = .returned (.tuple #[frV 0 0, .int .i64 1]) ∧ Below w.heap.size w w' := by
  have hf : isF (n : Int) 1 12 = false := by unfold isF; simp; omega
  have hb0 : Below w.heap.size w (w.alloc (.cells #[.int .i64 0, .int .i64 0] 51)) := ((Below.refl _ _).alloc (Nat.le_refl _) _)
  have c2 : Cell2 (w.alloc (.cells #[.int .i64 0, .int .i64 0] 51)) w.heap.size (.int .i64 0) (.int .i64 0) := Cell2.new w w.heap.size rfl _ _ 51
  go_enter Try.func48, Try.ntmps48
  go_wp2_with (go_at_call 78; refine (isFrom_any _ _ _ _).mono ?_; rw [hf]; rintro e w1 ⟨rfl, rfl⟩)
  obtain ⟨m0, m1, m2, _, _⟩ := c2.set (.int .i64 0) (.int .i64 0)
  refine bodyPost_ret (by simp [results, Try.results48, go_sem]; try rfl) rfl ?_
  first
    | exact ⟨rfl, hb0⟩
    | exact ⟨rfl, (hb0.setCell (p := ⟨w.heap.size, 0, none⟩) (Nat.le_refl _) _).setCell (p := ⟨w.heap.size, 1, none⟩) (Nat.le_refl _) _⟩
end Go.Proofs.Ytffblmhaoekkgaa.prp

/- Package prop, the walks: balance. -/
namespace Go.Proofs.Ytffblmhaoekkgaa.prp
open Go.RowKit
set_option linter.unusedSimpArgs false
set_option linter.unusedVariables false

set_option maxRecDepth 100000 in
set_option maxHeartbeats 4000000 in
theorem balance_any (b off : Nat) (xs : List Wn) (k : Nat) (w : World) (hr : RowV w (some ⟨b, off, none⟩) (flatW xs)) (hx : okL xs) (hk : k < xs.length) :
    Calls Try.prog 77 #[.slice (some ⟨b, off, none⟩) xs.length xs.length, .int .i64 k] w fun e w' => e = .returned (frP (balS xs k)) ∧ Below w.heap.size w w' := by
  have hg := hx.get hk
  have hs := hx.sum (k + 1)
  have hrow := fun W rows bs (h : Jn w W rows bs) => rowW_at hr hk (Nat.le_refl _) h.bel
  have hdl : (xs.drop (k + 1)).length = xs.length - (k + 1) := by simp
  have hw : ∀ W (q : Option Addr) (c : Nat), RowV W q (flatW (xs.drop (k + 1))) → Calls Try.prog 96 #[.slice q (xs.length - (k + 1)) c] W fun e w' => e = .returned (.int .i64 (wsum (xs.drop (k + 1)))) ∧ Below W.heap.size W w' := fun W q c h => by
    have := weightOf_any q c (xs.drop (k + 1)) W h (hx.drop (k + 1)).okW
    rw [hdl] at this
    exact this
  have hrd : RowV w (some ⟨b, off + (k + 1) * 5, none⟩) (flatW (xs.drop (k + 1))) := by
    have := hr.drop ((k + 1) * 5)
    rwa [← flatW_drop] at this
  have hfr := fun W => fraction_any ((xs.getD k zw).1.half * wsum (xs.drop (k + 1))) ((xs.getD k zw).2 + wsum (xs.drop (k + 1))) W (by
    have hp := prod_bd (a := (xs.getD k zw).1.half) (b := wsum (xs.drop (k + 1))) (A := 4194304) (B := 45) ⟨by omega, by omega⟩ ⟨by omega, by omega⟩
    omega) ⟨by omega, by omega⟩
  have hp := prod_bd (a := (xs.getD k zw).1.half) (b := wsum (xs.drop (k + 1))) (A := 4194304) (B := 45) ⟨by omega, by omega⟩ ⟨by omega, by omega⟩
  have hres : balS xs k = (lowN ((xs.getD k zw).1.half * wsum (xs.drop (k + 1))) ((xs.getD k zw).2 + wsum (xs.drop (k + 1))), lowD ((xs.getD k zw).1.half * wsum (xs.drop (k + 1))) ((xs.getD k zw).2 + wsum (xs.drop (k + 1)))) := rfl
  rw [hres]
  have HRD := Lib.hid (fun W rows bs (h : Jn w W rows bs) => hrd.below (Nat.le_refl _) h.bel)
  have HW := Lib.hid hw
  have hnil : k + 1 = xs.length → ∀ W (q : Option Addr), RowV W q (flatW (xs.drop (k + 1))) := fun h W q => .inl (by rw [h, List.drop_length]; rfl)
  have hw0 : k + 1 = xs.length → ∀ W (q : Option Addr), Calls Try.prog 96 #[.slice q 0 0] W fun e w' => e = .returned (.int .i64 (wsum (xs.drop (k + 1)))) ∧ Below W.heap.size W w' := fun h W q => by
    have := hw W q 0 (hnil h W q)
    rw [show xs.length - (k + 1) = 0 by omega] at this
    exact this
  have HW0 := Lib.hid hw0
  generalize hS : wsum (xs.drop (k + 1)) = S at *
  generalize (xs.getD k zw) = g at *
  have v1 : IntKind.i64.wrap (g.1.half * S) = g.1.half * S := IntWalk.i64_in _ ⟨by omega, by omega⟩
  have v2 : IntKind.i64.wrap (g.2 + S) = g.2 + S := IntWalk.i64_in _ ⟨by omega, by omega⟩
  have v3 : IntKind.i64.wrap ((k : Int) + 1) = (k : Int) + 1 := IntWalk.i64_in _ ⟨by have := hx.1; omega, by have := hx.1; omega⟩
  have v4 : ((k : Int) + 1).toNat = k + 1 := by omega
  have n0 : (k : Int) < (xs.length : Int) := by omega
  have n1 : (0 : Int) ≤ (k : Int) + 1 := by omega
  have n2 : (k : Int) + 1 ≤ (xs.length : Int) := by omega
  have n5 : k + 1 ≤ xs.length := by omega
  have HJ0 := Lib.hid (show Jn w w [] [] from ⟨Below.refl _ _, ⟨List.nodup_nil, fun B hB => by simp at hB⟩, fun B hB => by simp at hB⟩)
  have HJ := Lib.hid (HJ0.out.new (x := 0) (y := 0))
  have SF : Hid (∀ W rows bs, Jn w W rows bs → W.cell? ⟨b, off + k * 5, none⟩ = some (.int .i64 g.1.half) ∧ W.cell? ⟨b, off + k * 5 + 4, none⟩ = some (.int .i64 g.2)) := Lib.hid fun W rows bs h => by
    obtain ⟨b', o', e, _, g1, _, _, _, g5⟩ := hrow W rows bs h
    injection e with e
    injection e with e1 e2 e3
    subst e1 e2
    exact ⟨g1, g5⟩
  unfold frV at hfr
  have HFR := Lib.hid hfr
  clear hrow hw hw0 hrd hfr hp hres hnil hg hs hr hx hS HJ0 hdl
  go_enter Try.func77, Try.ntmps77
  go_upto_region 1 with fail
  generalize (w.alloc (.cells #[.int .i64 0, .int .i64 0] 51)) = W0 at *
  generalize hB4 : w.heap.size = B4 at *
  by_cases hlast : k + 1 = xs.length
  · have HW1 := Lib.hid (HW0.out hlast)
    generalize hnn : xs.length = n at *
    subst hlast
    clear HW HW0
    go_upto_region 2 with (go_at_call 96; refine (HW1.out _ _).mono ?_; rintro e W1 ⟨rfl, hb1⟩; replace HJ := Lib.hid (HJ.out.go hb1); clear hb1)
    generalize hn2 : k + 1 = nz at *
    have n0' : (k : Int) < (nz : Int) := by omega
    clear n0 n5 v4
    go_region_held3 (fun W => W.cell? ⟨b, off + k * 5, none⟩ = some (.int .i64 g.1.half) ∧ W.cell? ⟨b, off + k * 5 + 4, none⟩ = some (.int .i64 g.2)) (first | with_reducible exact SF.out _ _ _ HJ.out | with_reducible exact SF.out _ _ _ HJ.out.drew | with_reducible exact SF.out _ _ _ HJ.out.set | go_keep)
      (first
      | (go_at_call 95; refine (HFR.out _).mono ?_; rintro e W ⟨rfl, hb⟩; replace HJ := Lib.hid (HJ.out.go (by first | exact hb | exact ((Below.refl _ _).drew).on hb)); clear hb; obtain ⟨k0, k1, k2, k3, k4⟩ := HJ.out.one; dsimp only at k0 k1 k2 k3 k4)
      | fail)
    all_goals
      go_wp2
      have hj := HJ.out.set (a := lowN (g.1.half * S) (g.2 + S)) (b := lowD (g.1.half * S) (g.2 + S))
      obtain ⟨m0, m1, m2, _, _⟩ := hj.one
      have hbn := hj.bel
      dsimp only at m1 m2
      generalize ((W.setCell ⟨B4, 0, none⟩ (.int .i64 (lowN (g.1.half * S) (g.2 + S)))).setCell ⟨B4, 1, none⟩ (.int .i64 (lowD (g.1.half * S) (g.2 + S)))) = WW at *
      refine bodyPost_ret (by simp [results, Try.results77, go_sem, m1, m2]; try rfl) rfl ?_
      exact ⟨rfl, hbn⟩
  · have n3 : ¬ xs.length = k + 1 := by omega
    go_upto_region 2 with (go_at_call 96; refine (HW.out _ _ _ (HRD.out _ _ _ HJ.out)).mono ?_; rintro e W1 ⟨rfl, hb1⟩; replace HJ := Lib.hid (HJ.out.go hb1); clear hb1)
    go_region_held3 (fun W => W.cell? ⟨b, off + k * 5, none⟩ = some (.int .i64 g.1.half) ∧ W.cell? ⟨b, off + k * 5 + 4, none⟩ = some (.int .i64 g.2)) (first | with_reducible exact SF.out _ _ _ HJ.out | with_reducible exact SF.out _ _ _ HJ.out.drew | with_reducible exact SF.out _ _ _ HJ.out.set | go_keep)
      (first
      | (go_at_call 95; refine (HFR.out _).mono ?_; rintro e W ⟨rfl, hb⟩; replace HJ := Lib.hid (HJ.out.go (by first | exact hb | exact ((Below.refl _ _).drew).on hb)); clear hb; obtain ⟨k0, k1, k2, k3, k4⟩ := HJ.out.one; dsimp only at k0 k1 k2 k3 k4)
      | fail)
    all_goals
      go_wp2
      have hj := HJ.out.set (a := lowN (g.1.half * S) (g.2 + S)) (b := lowD (g.1.half * S) (g.2 + S))
      obtain ⟨m0, m1, m2, _, _⟩ := hj.one
      have hbn := hj.bel
      dsimp only at m1 m2
      generalize ((W.setCell ⟨B4, 0, none⟩ (.int .i64 (lowN (g.1.half * S) (g.2 + S)))).setCell ⟨B4, 1, none⟩ (.int .i64 (lowD (g.1.half * S) (g.2 + S)))) = WW at *
      refine bodyPost_ret (by simp [results, Try.results77, go_sem, m1, m2]; try rfl) rfl ?_
      exact ⟨rfl, hbn⟩
end Go.Proofs.Ytffblmhaoekkgaa.prp

/- Package prop, the walks: levelCentre. -/
namespace Go.Proofs.Ytffblmhaoekkgaa.prp
open Go.RowKit
set_option linter.unusedSimpArgs false
set_option linter.unusedVariables false

theorem lc_small {xs : List Wn} (h : okL xs) (k : Nat) (hk : k < xs.length) : smallP (lcS xs k).1 (lcS xs k).2 (lowN ((xs.getD k zw).1.half * (xs.getD k zw).2) (wsum (xs.drop k))) (lowD ((xs.getD k zw).1.half * (xs.getD k zw).2) (wsum (xs.drop k))) := by
  have hb := lc_bd4 h k hk
  have hg := h.get hk
  have hs := h.sum k
  have hs1 := h.sum_pos hk
  have hp := prod_bd (a := (xs.getD k zw).1.half) (b := (xs.getD k zw).2) (A := 4194304) (B := 9) ⟨by omega, by omega⟩ ⟨by omega, by omega⟩
  have l1 := low_abs (a := (xs.getD k zw).1.half * (xs.getD k zw).2) (b := wsum (xs.drop k)) (by omega) 37748736 ⟨by omega, by omega⟩
  have l2 := low_bd (a := (xs.getD k zw).1.half * (xs.getD k zw).2) (b := wsum (xs.drop k)) (by omega)
  generalize lowN ((xs.getD k zw).1.half * (xs.getD k zw).2) (wsum (xs.drop k)) = c at *
  generalize lowD ((xs.getD k zw).1.half * (xs.getD k zw).2) (wsum (xs.drop k)) = d at *
  have p1 := prod_bd (a := (lcS xs k).1) (b := d) (A := 700000000000000) (B := 45) ⟨by omega, by omega⟩ ⟨by omega, by omega⟩
  have p2 := prod_bd (a := c) (b := (lcS xs k).2) (A := 37748736) (B := 4100625) ⟨by omega, by omega⟩ ⟨by omega, by omega⟩
  have p3 := prod_bd (a := (lcS xs k).2) (b := d) (A := 4100625) (B := 45) ⟨by omega, by omega⟩ ⟨by omega, by omega⟩
  have p4 := Int.mul_pos hb.2.1 l2.2.1
  unfold smallP
  omega
set_option maxRecDepth 100000 in
set_option maxHeartbeats 4000000 in
theorem levelCentre_any (b off : Nat) (xs : List Wn) (lv : Nat) (w : World) (hr : RowV w (some ⟨b, off, none⟩) (flatW xs)) (hx : okL xs) (hk : lv < xs.length) :
    Calls Try.prog 75 #[.slice (some ⟨b, off, none⟩) xs.length xs.length, .int .i64 lv] w fun e w' => e = .returned (frP (lcS xs lv)) ∧ Below w.heap.size w w' := by
  have hrow := fun W rows bs (h : Jn w W rows bs) k (hk : k < xs.length) => rowW_at hr hk (Nat.le_refl _) h.bel
  have hw : ∀ k W (q : Option Addr) (c : Nat), RowV W q (flatW (xs.drop k)) → Calls Try.prog 96 #[.slice q (xs.length - k) c] W fun e w' => e = .returned (.int .i64 (wsum (xs.drop k))) ∧ Below W.heap.size W w' := fun k W q c h => by
    have := weightOf_any q c (xs.drop k) W h (hx.drop k).okW
    rw [show (xs.drop k).length = xs.length - k by simp] at this
    exact this
  have hrd : ∀ k, RowV w (some ⟨b, off + k * 5, none⟩) (flatW (xs.drop k)) := fun k => by
    have := hr.drop (k * 5)
    rwa [← flatW_drop] at this
  have HRD := Lib.hid (fun k W rows bs (h : Jn w W rows bs) => (hrd k).below (Nat.le_refl _) h.bel)
  have HROW := Lib.hid hrow
  have HW := Lib.hid hw
  have HX := Lib.hid hx
  have hn5 := hx.1
  have n1 : (lv : Int) ≤ (xs.length : Int) := by omega
  have n2 : lv ≤ xs.length := by omega
  have HJ0 := Lib.hid (show Jn w w [] [] from ⟨Below.refl _ _, ⟨List.nodup_nil, fun B hB => by simp at hB⟩, fun B hB => by simp at hB⟩)
  have HJ1 := Lib.hid ((HJ0.out.new (x := 0) (y := 0)).newB (x := 0) (y := 1) (B := w.heap.size + 1) (by simp))
  clear hrow hw hrd hr hx HJ0
  go_enter Try.func75, Try.ntmps75
  go_upto_region 2 with fail
  generalize ((w.alloc (.cells #[.int .i64 0, .int .i64 0] 51)).alloc (.cells #[.int .i64 0, .int .i64 1] 51)) = W0 at *
  generalize hB4 : w.heap.size = B4 at *
  go_wp2
  go_loopw [13] (fun i wr => ∃ k : Nat, k ≤ lv ∧ i = .int .i64 k ∧ Hid (Jn w wr [] [(B4 + 1, lcS xs k), (B4, (0, 0))])) (fun i _ => lv - (intOf i).toNat)
  case atStart => exact ⟨0, Nat.zero_le _, rfl, HJ1⟩
  case round =>
    obtain ⟨k, hk2, rfl, HJ⟩ := hrel
    by_cases hlt : k < lv
    · have hkn : k < xs.length := by omega
      have hg := HX.out.get hkn
      have hsm := lc_small HX.out k hkn
      have hs := HX.out.sum k
      have hs1 := HX.out.sum_pos hkn
      have hp := prod_bd (a := (xs.getD k zw).1.half) (b := (xs.getD k zw).2) (A := 4194304) (B := 9) ⟨by omega, by omega⟩ ⟨by omega, by omega⟩
      have hfr := fun W => fraction_any ((xs.getD k zw).1.half * (xs.getD k zw).2) (wsum (xs.drop k)) W (by omega) (by omega)
      have hpl := fun W => plus_any _ _ _ _ W hsm
      have e1 : (lcS xs (k + 1)).1 = lowN ((lcS xs k).1 * (lowD ((xs.getD k zw).1.half * (xs.getD k zw).2) (wsum (xs.drop k))) + (lowN ((xs.getD k zw).1.half * (xs.getD k zw).2) (wsum (xs.drop k))) * (lcS xs k).2) ((lcS xs k).2 * (lowD ((xs.getD k zw).1.half * (xs.getD k zw).2) (wsum (xs.drop k)))) := rfl
      have e2 : (lcS xs (k + 1)).2 = lowD ((lcS xs k).1 * (lowD ((xs.getD k zw).1.half * (xs.getD k zw).2) (wsum (xs.drop k))) + (lowN ((xs.getD k zw).1.half * (xs.getD k zw).2) (wsum (xs.drop k))) * (lcS xs k).2) ((lcS xs k).2 * (lowD ((xs.getD k zw).1.half * (xs.getD k zw).2) (wsum (xs.drop k)))) := rfl
      rw [← e1, ← e2] at hpl
      unfold frV at hfr hpl
      obtain ⟨b', o', e, hbz, g1, g2, g3, g4, g5⟩ := HROW.out wr _ _ HJ.out k hkn
      injection e with e
      injection e with e3 e4 e5
      subst e3 e4
      have hww := HW.out k
      generalize lowN ((xs.getD k zw).1.half * (xs.getD k zw).2) (wsum (xs.drop k)) = c1 at *
      generalize lowD ((xs.getD k zw).1.half * (xs.getD k zw).2) (wsum (xs.drop k)) = c2 at *
      generalize hS : wsum (xs.drop k) = S at *
      generalize (xs.getD k zw) = g at *
      generalize hy : lcS xs (k + 1) = y at *
      generalize lcS xs k = x at *
      obtain ⟨x1, x2⟩ := x
      obtain ⟨y1, y2⟩ := y
      have HY := Lib.hid hy
      have FR := Lib.hid hfr
      have PL := Lib.hid hpl
      have WW := Lib.hid hww
      dsimp only at PL
      have v1 : IntKind.i64.wrap (g.1.half * g.2) = g.1.half * g.2 := IntWalk.i64_in _ ⟨by omega, by omega⟩
      have m0 : (0 : Int) ≤ (k : Int) := by omega
      have m1 : (k : Int) < (lv : Int) := by omega
      have m2 : (k : Int) ≤ (xs.length : Int) := by omega
      have m3 : k ≤ xs.length := by omega
      have m4 : ¬ xs.length = k := by omega
      have A0 : Below wr.heap.size wr (wr.alloc (.cells #[.int .i64 g.1.half, .int .i64 g.1.at_, .int .i64 g.1.least, .int .i64 g.1.most, .int .i64 g.2] 133)) := (Below.refl _ _).alloc (Nat.le_refl _) _
      have h71 : (wr.alloc (.cells #[.int .i64 g.1.half, .int .i64 g.1.at_, .int .i64 g.1.least, .int .i64 g.1.most, .int .i64 g.2] 133)).cell? ⟨wr.heap.size, 0, none⟩ = some (.int .i64 g.1.half) := by simp
      have h72 : (wr.alloc (.cells #[.int .i64 g.1.half, .int .i64 g.1.at_, .int .i64 g.1.least, .int .i64 g.1.most, .int .i64 g.2] 133)).cell? ⟨wr.heap.size, 4, none⟩ = some (.int .i64 g.2) := by simp
      have h73 : wr.heap.size < (wr.alloc (.cells #[.int .i64 g.1.half, .int .i64 g.1.at_, .int .i64 g.1.least, .int .i64 g.1.most, .int .i64 g.2] 133)).heap.size := by simp
      have hB47 : B4 + 1 < wr.heap.size := HJ.out.one.1
      clear hy hfr hpl hww hg hsm hs hs1 hp e1 e2 hbz
      go_upto_region 5 with fail
      replace HJ := Lib.hid (HJ.out.go A0)
      generalize hB7 : wr.heap.size = B7 at *
      generalize (wr.alloc (.cells #[.int .i64 g.1.half, .int .i64 g.1.at_, .int .i64 g.1.least, .int .i64 g.1.most, .int .i64 g.2] 133)) = W1 at *
      clear A0 g1 g2 g3 g4 g5 hB7
      have hne : B4 + 1 ≠ B7 := by omega
      obtain ⟨k0, k1, k2, k3, k4⟩ := HJ.out.one
      dsimp only at k0 k1 k2 k3 k4
      have ST := Lib.hid (fun W (h : Below W1.heap.size W1 W) => (⟨(h.cell (p := ⟨B7, 0, none⟩) h73).trans h71, (h.cell (p := ⟨B7, 4, none⟩) h73).trans h72⟩ : W.cell? ⟨B7, 0, none⟩ = some (.int .i64 g.1.half) ∧ W.cell? ⟨B7, 4, none⟩ = some (.int .i64 g.2)))
      have BB := Lib.hid (Below.refl W1.heap.size W1)
      have st0 := ST.out _ BB.out
      have st1 := ST.out _ BB.out.drew
      clear h71 h72
      obtain ⟨s1, s2⟩ := st0
      clear st1
      go_region_with
        (first
        | (go_at_call 96; refine (WW.out _ _ _ (by first | with_reducible exact HRD.out k _ _ _ HJ.out | with_reducible exact HRD.out k _ _ _ HJ.out.drew)).mono ?_; rintro e W ⟨rfl, hb⟩; replace HJ := Lib.hid (HJ.out.go (by first | exact hb | exact ((Below.refl _ _).drew).on hb)); replace BB := Lib.hid (BB.out.on (by first | exact hb | exact ((Below.refl _ _).drew).on hb)); clear hb; obtain ⟨k0, k1, k2, k3, k4⟩ := HJ.out.one; dsimp only at k0 k1 k2 k3 k4; obtain ⟨s1, s2⟩ := ST.out _ BB.out)
        | (go_at_call 95; refine (FR.out _).mono ?_; rintro e W ⟨rfl, hb⟩; replace HJ := Lib.hid (HJ.out.go (by first | exact hb | exact ((Below.refl _ _).drew).on hb)); replace BB := Lib.hid (BB.out.on (by first | exact hb | exact ((Below.refl _ _).drew).on hb)); clear hb; obtain ⟨k0, k1, k2, k3, k4⟩ := HJ.out.one; dsimp only at k0 k1 k2 k3 k4; obtain ⟨s1, s2⟩ := ST.out _ BB.out)
        | (go_at_call 84; refine (PL.out _).mono ?_; rintro e W ⟨rfl, hb⟩; replace HJ := Lib.hid (HJ.out.go (by first | exact hb | exact ((Below.refl _ _).drew).on hb)); replace BB := Lib.hid (BB.out.on (by first | exact hb | exact ((Below.refl _ _).drew).on hb)); clear hb; obtain ⟨k0, k1, k2, k3, k4⟩ := HJ.out.one; dsimp only at k0 k1 k2 k3 k4; obtain ⟨s1, s2⟩ := ST.out _ BB.out))
      all_goals
        have hj := HJ.out.set (a := y1) (b := y2)
        go_wp2
        go_roundw
      all_goals first
        | exact ⟨k + 1, hlt, by go_num, by rw [HY.out]; exact Lib.hid hj⟩
        | (simp [intOf]; omega)
    · obtain rfl : k = lv := by omega
      generalize hx : lcS xs k = x at *
      obtain ⟨x1, x2⟩ := x
      obtain ⟨y0, y1, y2, y3, y4⟩ := HJ.out.one
      obtain ⟨z0, z1, z2, z3, z4⟩ := HJ.out.swap.one
      dsimp only at y0 y1 y2 y3 y4 z0 z1 z2 z3 z4
      go_wp2
      have hj := HJ.out.swap.set (a := x1) (b := x2)
      obtain ⟨m0, m1, m2, _, _⟩ := hj.one
      have hbn := hj.bel
      dsimp only at m1 m2
      generalize ((wr.setCell ⟨B4, 0, none⟩ (.int .i64 x1)).setCell ⟨B4, 1, none⟩ (.int .i64 x2)) = WW at *
      refine bodyPost_ret (by simp [results, Try.results75, go_sem, m1, m2]; try rfl) rfl ?_
      exact ⟨by rw [hx]; rfl, hbn⟩
end Go.Proofs.Ytffblmhaoekkgaa.prp

/- Package prop, the walks: reach. -/
namespace Go.Proofs.Ytffblmhaoekkgaa.prp
open Go.RowKit
set_option linter.unusedSimpArgs false
set_option linter.unusedVariables false

theorem plusG (a b c d e f : Int) (h : Hid (smallP a b c d)) (h2 : Hid (plusF (a, b) (c, d) = (e, f))) (w : World) : Calls Try.prog 84 #[.agg #[.int .i64 a, .int .i64 b], .agg #[.int .i64 c, .int .i64 d]] w fun e' w' => e' = .returned (.agg #[.int .i64 e, .int .i64 f]) ∧ Below w.heap.size w w' := by
  have := plus_any a b c d w h.out
  have h3 : (lowN (a * d + c * b) (b * d), lowD (a * d + c * b) (b * d)) = (e, f) := h2.out
  injection h3 with h4 h5
  rw [h4, h5] at this
  exact this
theorem reach_bd {xs : List Wn} (h : okL xs) (k : Nat) (hk : k < xs.length) :
    smallP (lcS xs k).1 (lcS xs k).2 (balS xs k).1 (balS xs k).2 ∧ smallP (plusF (lcS xs k) (balS xs k)).1 (plusF (lcS xs k) (balS xs k)).2 (xs.getD k zw).1.half 1 := by
  have hl := lc_bd4 h k hk
  have hb := bal_bd h k hk
  have hg := h.get hk
  have hq := plusF_bd hl.2.1 hb.2.1 hl.1 hl.2.2 hb.1 hb.2.2
  have p1 := prod_bd (a := (lcS xs k).1) (b := (balS xs k).2) (A := 700000000000000) (B := 54) ⟨by omega, by omega⟩ ⟨by omega, by omega⟩
  have p2 := prod_bd (a := (balS xs k).1) (b := (lcS xs k).2) (A := 188743680) (B := 4100625) ⟨by omega, by omega⟩ ⟨by omega, by omega⟩
  have p3 := prod_bd (a := (lcS xs k).2) (b := (balS xs k).2) (A := 4100625) (B := 54) ⟨by omega, by omega⟩ ⟨by omega, by omega⟩
  have p4 := Int.mul_pos hl.2.1 hb.2.1
  refine ⟨by unfold smallP; omega, ?_⟩
  generalize plusF (lcS xs k) (balS xs k) = p at *
  have p5 := prod_bd (a := (xs.getD k zw).1.half) (b := p.2) (A := 4194304) (B := 221433750) ⟨by omega, by omega⟩ ⟨by omega, by omega⟩
  unfold smallP
  rw [Int.mul_one, Int.mul_one]
  omega
set_option maxRecDepth 100000 in
set_option maxHeartbeats 4000000 in
theorem reach_any (b off : Nat) (xs : List Wn) (k : Nat) (w : World) (hr : RowV w (some ⟨b, off, none⟩) (flatW xs)) (hx : okL xs) (hk : k < xs.length) :
    Calls Try.prog 79 #[.slice (some ⟨b, off, none⟩) xs.length xs.length, .int .i64 k] w fun e w' => e = .returned (frP (reachS xs k)) ∧ Below w.heap.size w w' := by
  obtain ⟨hs1, hs2⟩ := reach_bd hx k hk
  have hlc := fun W rows bs (h : Jn w W rows bs) => levelCentre_any b off xs k W (hr.below (Nat.le_refl _) h.bel) hx hk
  have hba := fun W rows bs (h : Jn w W rows bs) => balance_any b off xs k W (hr.below (Nat.le_refl _) h.bel) hx hk
  have hres : reachS xs k = plusF (plusF (lcS xs k) (balS xs k)) ((xs.getD k zw).1.half, 1) := rfl
  obtain ⟨b', o', e, hbz, g1, _⟩ := rowW_at hr hk (Nat.le_refl _) ((Below.refl w.heap.size w).alloc (Nat.le_refl _) (.cells #[.int .i64 0, .int .i64 0] 51))
  injection e with e
  injection e with e1 e2 e3
  subst e1 e2
  rw [hres]
  generalize hp : plusF (lcS xs k) (balS xs k) = p at *
  generalize (xs.getD k zw).1.half = hf at *
  generalize hq : plusF p (hf, 1) = y at *
  generalize lcS xs k = x at *
  generalize balS xs k = z at *
  obtain ⟨x1, x2⟩ := x
  obtain ⟨y1, y2⟩ := y
  obtain ⟨z1, z2⟩ := z
  obtain ⟨p1, p2⟩ := p
  unfold frP frV at hlc hba
  dsimp only at hlc hba hs1 hs2
  have S1 := Lib.hid hs1
  have S2 := Lib.hid hs2
  have E1 := Lib.hid hp
  have E2 := Lib.hid hq
  have LC := Lib.hid hlc
  have BA := Lib.hid hba
  have n0 : (k : Int) < (xs.length : Int) := by omega
  have HJ0 := Lib.hid (show Jn w w [] [] from ⟨Below.refl _ _, ⟨List.nodup_nil, fun B hB => by simp at hB⟩, fun B hB => by simp at hB⟩)
  have HJ := Lib.hid ((HJ0.out.new (x := 0) (y := 0)).newB (x := hf) (y := 1) (B := w.heap.size + 1) (by simp))
  have SF : Hid (∀ W rows bs, Jn w W rows ((w.heap.size + 1, (hf, 1)) :: bs) → W.cell? ⟨w.heap.size + 1, 0, none⟩ = some (.int .i64 hf) ∧ W.cell? ⟨w.heap.size + 1, 1, none⟩ = some (.int .i64 1)) := Lib.hid fun W rows bs h => ⟨h.one.2.1, h.one.2.2.1⟩
  clear hs1 hs2 hp hq hlc hba hres hr hx hk HJ0 hbz
  go_enter Try.func79, Try.ntmps79
  go_upto_region 2 with fail
  generalize ((w.alloc (.cells #[.int .i64 0, .int .i64 0] 51)).alloc (.cells #[.int .i64 hf, .int .i64 1] 51)) = W0 at *
  generalize hB4 : w.heap.size = B4 at *
  have hne : B4 ≠ B4 + 1 := by omega
  have hne2 : B4 + 1 ≠ B4 := by omega
  clear g1
  go_region_held3 (fun W => W.cell? ⟨B4 + 1, 0, none⟩ = some (.int .i64 hf) ∧ W.cell? ⟨B4 + 1, 1, none⟩ = some (.int .i64 1)) (first | with_reducible exact SF.out _ _ _ HJ.out | with_reducible exact SF.out _ _ _ HJ.out.drew | with_reducible exact SF.out _ _ _ HJ.out.swap.set.swap | go_keep)
    (first
    | (go_at_call 75; refine (LC.out _ _ _ (by first | with_reducible exact HJ.out | with_reducible exact HJ.out.drew)).mono ?_; rintro e W ⟨rfl, hb⟩; replace HJ := Lib.hid (HJ.out.go (by first | exact hb | exact ((Below.refl _ _).drew).on hb)); clear hb; obtain ⟨k0, k1, k2, k3, k4⟩ := HJ.out.swap.one; dsimp only at k0 k1 k2 k3 k4)
    | (go_at_call 77; refine (BA.out _ _ _ (by first | with_reducible exact HJ.out | with_reducible exact HJ.out.drew)).mono ?_; rintro e W ⟨rfl, hb⟩; replace HJ := Lib.hid (HJ.out.go (by first | exact hb | exact ((Below.refl _ _).drew).on hb)); clear hb; obtain ⟨k0, k1, k2, k3, k4⟩ := HJ.out.swap.one; dsimp only at k0 k1 k2 k3 k4)
    | (go_at_call 84; refine (plusG _ _ _ _ _ _ (by first | exact S1 | exact S2) (by first | exact E1 | exact E2) _).mono ?_; rintro e W ⟨rfl, hb⟩; replace HJ := Lib.hid (HJ.out.go (by first | exact hb | exact ((Below.refl _ _).drew).on hb)); clear hb; obtain ⟨k0, k1, k2, k3, k4⟩ := HJ.out.swap.one; dsimp only at k0 k1 k2 k3 k4))
  all_goals
    go_wp2
    have hj := HJ.out.swap.set (a := y1) (b := y2)
    obtain ⟨m0, m1, m2, _, _⟩ := hj.one
    have hbn := hj.bel
    dsimp only at m1 m2
    generalize ((W.setCell ⟨B4, 0, none⟩ (.int .i64 y1)).setCell ⟨B4, 1, none⟩ (.int .i64 y2)) = WW at *
    refine bodyPost_ret (by simp [results, Try.results79, go_sem, m1, m2]; try rfl) rfl ?_
    exact ⟨rfl, hbn⟩
end Go.Proofs.Ytffblmhaoekkgaa.prp

/- Package prop, the walks: read, Farthest. -/
namespace Go.Proofs.Ytffblmhaoekkgaa.prp
open Go.RowKit
set_option linter.unusedSimpArgs false
set_option linter.unusedVariables false

theorem keepB4 {V : World} {gl gh : Nat} (hne : gl ≠ gh) (a b c d : Nat) (v1 v2 v3 v4 : Value) (p : Nat) : ((((V.setCell ⟨gh, a, none⟩ v1).setCell ⟨gh, b, none⟩ v2).setCell ⟨gh, c, none⟩ v3).setCell ⟨gh, d, none⟩ v4).drew.cell? ⟨gl, p, none⟩ = V.cell? ⟨gl, p, none⟩ := by
  have h : ∀ o, (⟨gh, o, none⟩ : Addr) ≠ ⟨gl, p, none⟩ := fun o e => by injection e with e; exact hne e.symm
  show ((((V.setCell ⟨gh, a, none⟩ v1).setCell ⟨gh, b, none⟩ v2).setCell ⟨gh, c, none⟩ v3).setCell ⟨gh, d, none⟩ v4).cell? ⟨gl, p, none⟩ = V.cell? ⟨gl, p, none⟩
  rw [World.cell?_setCell_other (h := h d), World.cell?_setCell_other (h := h c), World.cell?_setCell_other (h := h b), World.cell?_setCell_other (h := h a)]
theorem madeSn (k : Nat) (hk : k ≤ 5) : (madeCells (Value.agg #[.int .i64 0, .int .i64 0, .int .i64 0, .int .i64 0]).cells (k * 4)).toList = flatS (List.replicate k zs) := by
  rcases (by omega : k = 0 ∨ k = 1 ∨ k = 2 ∨ k = 3 ∨ k = 4 ∨ k = 5) with rfl | rfl | rfl | rfl | rfl | rfl <;> kernel_rfl
/-- the first k stones laid -/
def ptS (n : Nat) (f : Nat → Sn) (k : Nat) : List Sn := (List.range n).map fun i => if i < k then f i else zs
theorem ptS_zero (n : Nat) (f : Nat → Sn) : ptS n f 0 = List.replicate n zs := by
  unfold ptS
  apply List.ext_getElem <;> simp
theorem ptS_full (n : Nat) (f : Nat → Sn) : ptS n f n = (List.range n).map f := by
  unfold ptS
  exact List.map_congr_left fun i hi => if_pos (List.mem_range.1 hi)
theorem ptS_len (n : Nat) (f : Nat → Sn) (k : Nat) : (ptS n f k).length = n := by simp [ptS]
theorem ptS_set (n : Nat) (f : Nat → Sn) (k : Nat) (hk : k < n) : (ptS n f k).set k (f k) = ptS n f (k + 1) := by
  unfold ptS
  apply List.ext_getElem
  · simp
  · intro i h1 h2
    simp at h1 h2
    rw [List.getElem_set]
    by_cases e : k = i
    · subst e; simp
    · simp only [e, if_false, List.getElem_map, List.getElem_range]
      by_cases h : i < k
      · rw [if_pos h, if_pos (by omega)]
      · rw [if_neg h, if_neg (by omega)]
/-- the stones of loads -/
def ldF (hs ws : List Int) (i : Nat) : Sn := ⟨hs.getD i 0, 0, ws.getD i 0, ws.getD i 0⟩
def ldS (hs ws : List Int) : List Sn := (List.range hs.length).map (ldF hs ws)
theorem ldS_len (hs ws : List Int) : (ldS hs ws).length = hs.length := by simp [ldS]

set_option maxRecDepth 100000 in
set_option maxHeartbeats 4000000 in
theorem read_ok (q1 : Option Addr) (c1 : Nat) (hs : List Int) (q2 : Option Addr) (c2 : Nat) (ws : List Int) (w : World) (hr1 : RowV w q1 (flatI hs)) (hr2 : RowV w q2 (flatI ws)) (hl : ws.length = hs.length) (h1 : 1 ≤ hs.length) (h5 : hs.length ≤ 5) (hE : errP (ldS hs ws) = 0) :
    Calls Try.prog 74 #[.slice q1 hs.length c1, .slice q2 hs.length c2] w fun e w' => ∃ g, e = .returned (.tuple #[.slice (some ⟨g, 0, none⟩) hs.length hs.length, .int .i64 0]) ∧ RowV w' (some ⟨g, 0, none⟩) (flatW (weighS (ldS hs ws) ws)) ∧ Below w.heap.size w w' := by
  obtain ⟨i0, hi, hz0', hz1', hz2'⟩ := info_parts infoS
  have HI := Lib.hid hi
  have HZ0 := Lib.hid hz0'
  have HZ1 := Lib.hid hz1'
  have HZ2 := Lib.hid hz2'
  have hld : ldS hs ws = ptS hs.length (ldF hs ws) hs.length := (ptS_full _ _).symm
  have hlen := ldS_len hs ws
  have HLD := Lib.hid hld
  have HLEN := Lib.hid hlen
  have HE := Lib.hid hE
  have HR1 := Lib.hid hr1
  have HR2 := Lib.hid hr2
  have HL := Lib.hid hl
  have b1 : ((hs.length : Int) == 0) = false := by rw [beq_eq_false_iff_ne]; omega
  have b2 : ¬ (5 : Int) < (hs.length : Int) := by omega
  have b3 : hs.length ≠ 0 := by omega
  clear hi hz0' hz1' hz2' hld hlen hE hr1 hr2 hl
  go_enter Try.func74, Try.ntmps74
  go_wp2_with (at_make; refine wpList_make_full _ rfl (.tmp 22) (.tmp 22) 27 rfl w.heap.size 44 i0 _ 4 Try.underlying27 HI.out HZ0.out HZ1.out .i64 .i64 hs.length hs.length hs.length rfl rfl rfl rfl (by rw [HZ2.out]; omega) (by unfold maxLen; omega) (Nat.le_refl _) ?_; intro w4 hown4 hgrow4; rw [madeSn _ h5] at hown4; have hb4 : Below w.heap.size w w4 := (Below.refl _ _).grown hgrow4 (Nat.le_refl _) (by simp))
  have ho4 : OwnS w4 w.heap.size w.heap.size hs.length (ptS hs.length (ldF hs ws) 0) := by
    unfold OwnS
    rw [ptS_zero, List.length_replicate]
    exact hown4
  have HO4 := Lib.hid ho4
  have HB4 := Lib.hid hb4
  clear hgrow4 hown4 ho4 hb4
  generalize hG : w.heap.size = G at *
  go_loopw [26] (fun i wr => ∃ k : Nat, k ≤ hs.length ∧ i = .int .i64 k ∧ Hid (OwnS wr G G hs.length (ptS hs.length (ldF hs ws) k)) ∧ Hid (Below G w wr)) (fun i _ => hs.length - (intOf i).toNat)
  case atStart => exact ⟨0, Nat.zero_le _, rfl, HO4, HB4⟩
  case round =>
    obtain ⟨k, hk, rfl, HO, HB⟩ := hrel
    by_cases hlt : k < hs.length
    · have hb := HB.out
      obtain ⟨bx, ox, rfl, hbx, g1⟩ := rowI_at HR1.out hlt (N := G) (by omega) hb
      obtain ⟨by_, oy, rfl, hby, g2⟩ := rowI_at HR2.out (k := k) (by have := HL.out; omega) (N := G) (by omega) hb
      have hst := ptS_set hs.length (ldF hs ws) k hlt
      have hlf : ldF hs ws k = ⟨hs.getD k 0, 0, ws.getD k 0, ws.getD k 0⟩ := rfl
      obtain ⟨⟨p0, p1, p2, p3⟩, f0, f1, f2, f3⟩ := HO.out.cellsAt k (by rw [ptS_len]; exact hlt)
      have hc4 := HO.out.cells4 k (by rw [ptS_len]; exact hlt) (ldF hs ws k)
      rw [hst, hlf] at hc4
      simp only at hc4
      generalize hs.getD k 0 = hx at *
      generalize ws.getD k 0 = x at *
      obtain ⟨q0, hq0⟩ : ∃ q0, wr.cell? ⟨G, k * 4, none⟩ = some q0 := ⟨_, p0⟩
      obtain ⟨q1, hq1⟩ : ∃ q1, wr.cell? ⟨G, k * 4 + 1, none⟩ = some q1 := ⟨_, p1⟩
      obtain ⟨q2, hq2⟩ : ∃ q2, wr.cell? ⟨G, k * 4 + 2, none⟩ = some q2 := ⟨_, p2⟩
      obtain ⟨q3, hq3⟩ : ∃ q3, wr.cell? ⟨G, k * 4 + 3, none⟩ = some q3 := ⟨_, p3⟩
      have C4 := Lib.hid hc4
      have hne : by_ ≠ G := by omega
      have hki : (k : Int) < (hs.length : Int) := by omega
      clear p0 p1 p2 p3 hst hlf hc4 hb
      have g2d : wr.drew.cell? ⟨by_, oy + k, none⟩ = some (.int .i64 x) := g2
      go_upto_region 11 with fail
      go_region_held3 (fun W => W.cell? ⟨by_, oy + k, none⟩ = some (.int .i64 x)) (first | with_reducible exact g2d | with_reducible exact (keepB4 hne _ _ _ _ _ _ _ _ _).trans g2 | go_keep) (first | fail)
      all_goals go_wp2
      all_goals go_roundw
      all_goals first
        | exact ⟨k + 1, hlt, by go_num, Lib.hid C4.out.1, Lib.hid ((HB.out.trans C4.out.2).drew)⟩
        | (simp [intOf]; omega)
    · obtain rfl : k = hs.length := by omega
      rw [← HLD.out] at HO
      have hck := Check_any (some ⟨G, 0, none⟩) hs.length (ldS hs ws) wr HO.out.row (by rw [HLEN.out]; omega)
      rw [HE.out, HLEN.out] at hck
      have hwg := fun W (h : Below wr.heap.size wr W) => weigh_any (some ⟨G, 0, none⟩) hs.length (ldS hs ws) q2 c2 ws W ((HO.out.row).below (Nat.le_refl _) h) ((HR2.out.below (Nat.le_refl _) (by rw [hG]; exact HB.out)).below (Nat.le_refl _) h) (by rw [HLEN.out]; exact h5) (by rw [HLEN.out]; exact HL.out)
      rw [HLEN.out, HL.out] at hwg
      have CK := Lib.hid hck
      have WG := Lib.hid hwg
      clear hck hwg
      go_wp2_with (first
        | (go_at_call 16; refine CK.out.mono ?_; rintro e W1 ⟨rfl, hb1⟩)
        | (go_at_call 89; refine (WG.out _ hb1).mono ?_; rintro e W2 ⟨rfl, hr2, hz2, hb2⟩))
      go_ret2
      exact ⟨_, rfl, hr2, by rw [hG]; have h := HB.out.trans (hb1.mono (Nat.le_trans (Nat.le_of_eq hG.symm) HB.out.size)); exact h.trans (hb2.mono (Nat.le_trans (Nat.le_of_eq hG.symm) h.size))⟩
end Go.Proofs.Ytffblmhaoekkgaa.prp

/- Package prop, the walks: Farthest of loads. -/
namespace Go.Proofs.Ytffblmhaoekkgaa.prp
open Go.RowKit
set_option linter.unusedSimpArgs false
set_option linter.unusedVariables false

/-- loads -/
def ldX (hs ws : List Int) : List Wn := weighS (ldS hs ws) ws
theorem ldX_len (hs ws : List Int) : (ldX hs ws).length = hs.length := by unfold ldX weighS; rw [List.length_map, List.length_range, ldS_len]
theorem ldX_get (hs ws : List Int) (i : Nat) (hi : i < hs.length) : (ldX hs ws).getD i zw = (ldF hs ws i, ws.getD i 0) := by
  unfold ldX weighS
  have h1 : (ldS hs ws).getD i zs = ldF hs ws i := by unfold ldS; simp [hi]
  have h2 : i < (ldS hs ws).length := by rw [ldS_len]; exact hi
  simp [h2]
  rw [getD_eq _ i zs h2] at h1
  exact h1
theorem ldX_ok {hs ws : List Int} (hl : ws.length = hs.length) (hE : errP (ldS hs ws) = 0) : okL (ldX hs ws) := by
  obtain ⟨_, h5, hok⟩ := errP_ok hE
  rw [ldS_len] at h5
  refine ⟨by rw [ldX_len]; exact h5, fun x hx => ?_⟩
  obtain ⟨i, hi, e⟩ := List.getElem_of_mem hx
  rw [ldX_len] at hi
  have hg := ldX_get hs ws i hi
  rw [getD_eq _ i zw (by rw [ldX_len]; exact hi), e] at hg
  have hs' := hok _ (getD_mem (ldS hs ws) i zs (by rw [ldS_len]; exact hi))
  have h1 : (ldS hs ws).getD i zs = ldF hs ws i := by unfold ldS; simp [hi]
  rw [h1] at hs'
  unfold okS ldF at hs'
  simp only at hs'
  rw [hg]
  unfold ldF
  simp only
  omega

set_option maxRecDepth 100000 in
set_option maxHeartbeats 4000000 in
theorem Farthest_ok (q1 : Option Addr) (c1 : Nat) (hs : List Int) (q2 : Option Addr) (c2 : Nat) (ws : List Int) (k : Nat) (w : World) (hr1 : RowV w q1 (flatI hs)) (hr2 : RowV w q2 (flatI ws)) (hl : ws.length = hs.length) (h1 : 1 ≤ hs.length) (h5 : hs.length ≤ 5) (hE : errP (ldS hs ws) = 0) (hk : k < hs.length) :
    Calls Try.prog 43 #[.slice q1 hs.length c1, .slice q2 hs.length c2, .int .i64 k] w fun e w' => e = .returned (.tuple #[frP (reachS (ldX hs ws) k), .int .i64 0]) ∧ Below w.heap.size w w' := by
  have HRD := Lib.hid (fun W rows bs (h : Jn w W rows bs) => read_ok q1 c1 hs q2 c2 ws W (hr1.below (Nat.le_refl _) h.bel) (hr2.below (Nat.le_refl _) h.bel) hl h1 h5 hE)
  have hok := ldX_ok hl hE
  have hln := ldX_len hs ws
  have hre : ∀ (g : Nat) (W : World), RowV W (some ⟨g, 0, none⟩) (flatW (ldX hs ws)) → Calls Try.prog 79 #[.slice (some ⟨g, 0, none⟩) hs.length hs.length, .int .i64 k] W fun e w' => e = .returned (frP (reachS (ldX hs ws) k)) ∧ Below W.heap.size W w' := fun g W h => by
    have := reach_any g 0 (ldX hs ws) k W h hok (by rw [hln]; exact hk)
    rw [hln] at this
    exact this
  generalize reachS (ldX hs ws) k = y at *
  obtain ⟨y1, y2⟩ := y
  unfold frP frV at hre
  dsimp only at hre
  have HRE := Lib.hid hre
  have hf : isF (k : Int) 0 ((hs.length : Int) - 1) = true := by unfold isF; simp; omega
  have v1 : IntKind.i64.wrap ((hs.length : Int) - 1) = (hs.length : Int) - 1 := IntWalk.i64_in _ ⟨by omega, by omega⟩
  have HJ0 := Lib.hid (show Jn w w [] [] from ⟨Below.refl _ _, ⟨List.nodup_nil, fun B hB => by simp at hB⟩, fun B hB => by simp at hB⟩)
  have HJ := Lib.hid (HJ0.out.new (x := 0) (y := 0))
  clear HJ0 hre hok hln hr1 hr2 hE
  go_enter Try.func43, Try.ntmps43
  go_upto_region 1 with fail
  generalize (w.alloc (.cells #[.int .i64 0, .int .i64 0] 51)) = W0 at *
  generalize hB : w.heap.size = B at *
  go_upto_region 2 with (go_at_call 74; refine (HRD.out _ _ _ HJ.out).mono ?_; rintro e W1 ⟨g, rfl, hrg, hb1⟩)
  replace HJ := Lib.hid ((HJ.out.go hb1).add hrg)
  clear hb1 hrg
  go_upto_region 6 with (go_at_call 78; refine (isFrom_any _ _ _ _).mono ?_; rw [hf]; rintro e w1 ⟨rfl, rfl⟩)
  go_wp2_with (go_at_call 79; refine (HRE.out _ _ (HJ.out.row _ (List.mem_cons_self ..))).mono ?_; rintro e W ⟨rfl, hb⟩; replace HJ := Lib.hid (HJ.out.go hb); clear hb; obtain ⟨k0, k1, k2, k3, k4⟩ := HJ.out.one; dsimp only at k0 k1 k2 k3 k4)
  have hj := HJ.out.set (a := y1) (b := y2)
  obtain ⟨m0, m1, m2, _, _⟩ := hj.one
  have hbn := hj.bel
  dsimp only at m1 m2
  generalize ((W.setCell ⟨B, 0, none⟩ (.int .i64 y1)).setCell ⟨B, 1, none⟩ (.int .i64 y2)) = WW at *
  refine bodyPost_ret (by simp [results, Try.results43, go_sem, m1, m2]; try rfl) rfl ?_
  exact ⟨rfl, hbn⟩
end Go.Proofs.Ytffblmhaoekkgaa.prp

/- Chapter 7, plainly: equal stones: the last one reaches the sum of parts of 1 times its half length. -/
namespace Go.Proofs.Ytffblmhaoekkgaa.prp
set_option linter.unusedSimpArgs false
set_option linter.unusedVariables false

theorem FrV.scale {x : Fr} {a b m : Int} (hm : 0 < m) (h : FrV x (a * m) (b * m)) : FrV x a b := by
  refine ⟨h.pos, h.gcd, ?_⟩
  have h1 := h.val
  have hm2 : m ≠ 0 := by omega
  apply Int.eq_of_mul_eq_mul_right hm2
  grind
theorem FrV.cast {x : Fr} {a b a' b' : Int} (h : FrV x a b) (ha : a = a') (hb : b = b') : FrV x a' b' := by subst ha hb; exact h
theorem wsum_rep (x : Wn) : ∀ m : Nat, wsum (List.replicate m x) = m * x.2
  | 0 => by simp [wsum]
  | m + 1 => by rw [List.replicate_succ, wsum_cons, wsum_rep x m]; push_cast; grind
def eqP (n : Nat) : Nat → Int × Int
  | 0 => (0, 1)
  | k + 1 => ((eqP n k).1 * ((n : Int) - k) + (eqP n k).2, (eqP n k).2 * ((n : Int) - k))
theorem rep_get (n : Nat) (x : Wn) (k : Nat) (hk : k < n) : (List.replicate n x).getD k zw = x := by simp [hk]
theorem lc_rep (n : Nat) (L c : Int) (hc : 0 < c) : ∀ k, k ≤ n → FrV (lcS (List.replicate n (⟨L, 0, c, c⟩, c)) k) (L * (eqP n k).1) (eqP n k).2 ∧ 0 < (eqP n k).2
  | 0, _ => ⟨(FrV.int 0).cast (by simp [eqP]) rfl, by show (0 : Int) < 1; omega⟩
  | k + 1, hk => by
    obtain ⟨h1, h2⟩ := lc_rep n L c hc k (by omega)
    have hW : wsum ((List.replicate n ((⟨L, 0, c, c⟩, c) : Wn)).drop k) = ((n : Int) - k) * c := by
      rw [List.drop_replicate, wsum_rep]
      show ((n - k : Nat) : Int) * c = _
      rw [Int.ofNat_sub (by omega)]
    have hp : (0 : Int) < (n : Int) - k := by omega
    have hl : FrV (lowF (L * c) (((n : Int) - k) * c)) L ((n : Int) - k) := FrV.scale hc (FrV.low (Int.mul_pos hp hc))
    have h := h1.plus hl
    have e : lcS (List.replicate n (⟨L, 0, c, c⟩, c)) (k + 1) = plusF (lcS (List.replicate n (⟨L, 0, c, c⟩, c)) k) (lowF (L * c) (((n : Int) - k) * c)) := by
      show plusF _ (lowF (((List.replicate n ((⟨L, 0, c, c⟩, c) : Wn)).getD k zw).1.half * ((List.replicate n ((⟨L, 0, c, c⟩, c) : Wn)).getD k zw).2) _) = _
      rw [rep_get n _ k (by omega), hW]
    rw [e]
    refine ⟨h.cast ?_ rfl, Int.mul_pos h2 hp⟩
    show L * (eqP n k).1 * ((n : Int) - k) + L * (eqP n k).2 = L * ((eqP n k).1 * ((n : Int) - k) + (eqP n k).2)
    rw [Int.mul_add, Int.mul_assoc]
theorem reach_rep (n : Nat) (h1 : 1 ≤ n) (h5 : n ≤ 5) (L c : Int) (hc : 0 < c) : reachS (List.replicate n (⟨L, 0, c, c⟩, c)) (n - 1) = lowF ((facS n).1 * L) (facS n).2 := by
  obtain ⟨h2, h3⟩ := lc_rep n L c hc (n - 1) (by omega)
  have hd : wsum ((List.replicate n ((⟨L, 0, c, c⟩, c) : Wn)).drop (n - 1 + 1)) = 0 := by
    rw [show n - 1 + 1 = n by omega, List.drop_replicate, Nat.sub_self]; rfl
  have hb : balS (List.replicate n (⟨L, 0, c, c⟩, c)) (n - 1) = lowF (L * 0) (c + 0) := by
    unfold balS
    rw [hd, rep_get n _ (n - 1) (by omega)]
  have hbv : FrV (balS (List.replicate n (⟨L, 0, c, c⟩, c)) (n - 1)) 0 1 := by
    rw [hb]
    exact FrV.scale (m := c) hc ((FrV.low (a := L * 0) (b := c + 0) (by omega)).cast (by simp) (by simp))
  have hr := (h2.plus hbv).plus (FrV.int L)
  have er : reachS (List.replicate n (⟨L, 0, c, c⟩, c)) (n - 1) = plusF (plusF (lcS (List.replicate n (⟨L, 0, c, c⟩, c)) (n - 1)) (balS (List.replicate n (⟨L, 0, c, c⟩, c)) (n - 1))) (L, 1) := by
    unfold reachS
    rw [rep_get n _ (n - 1) (by omega)]
  rw [er]
  have hf := (har_val n).2
  refine hr.eq (FrV.low hf) (by omega) hf ?_
  have hk : ∀ n ∈ [1, 2, 3, 4, 5], ((eqP n (n - 1)).1 + (eqP n (n - 1)).2) * (facS n).2 = (facS n).1 * (eqP n (n - 1)).2 := by decide
  have hk := hk n (by simp; omega)
  generalize (eqP n (n - 1)).1 = p at *
  generalize (eqP n (n - 1)).2 = q at *
  generalize (facS n).1 = r at *
  generalize (facS n).2 = s at *
  clear hr er h2 hb hbv hd
  grind
theorem ldX_rep (n : Nat) (L c : Int) : ldX (List.replicate n L) (List.replicate n c) = List.replicate n (⟨L, 0, c, c⟩, c) := by
  refine List.ext_getElem (by rw [ldX_len, List.length_replicate, List.length_replicate]) fun i h1 h2 => ?_
  have hi : i < n := by rw [List.length_replicate] at h2; exact h2
  have := ldX_get (List.replicate n L) (List.replicate n c) i (by rw [List.length_replicate]; exact hi)
  rw [getD_eq _ i zw h1] at this
  rw [this, List.getElem_replicate]
  unfold ldF
  simp [hi]
theorem err_rep (n : Nat) (h1 : 1 ≤ n) (h5 : n ≤ 5) (L c : Int) (hL : 1 ≤ L ∧ L ≤ 256) (hc : 1 ≤ c ∧ c ≤ 9) : errP (ldS (List.replicate n L) (List.replicate n c)) = 0 := by
  rw [errP_iff]
  refine ⟨by rw [ldS_len, List.length_replicate]; omega, fun s hs => ?_⟩
  unfold ldS at hs
  obtain ⟨i, hi, rfl⟩ := List.mem_map.1 hs
  have hi := List.mem_range.1 hi
  rw [List.length_replicate] at hi
  rw [stErr_iff]
  unfold ldF
  simp [hi]
  omega
end Go.Proofs.Ytffblmhaoekkgaa.prp

/- Chapter 7's law, the walks: slices.Repeat of one number. -/
namespace Go.Proofs.Ytffblmhaoekkgaa.prp
open Go.RowKit
set_option linter.unusedSimpArgs false
set_option linter.unusedVariables false

set_option maxRecDepth 100000 in
set_option maxHeartbeats 4000000 in
theorem Mul64_1 (n : Nat) (h1 : 1 ≤ n) (h5 : n ≤ 5) (w : World) :
    Calls Try.prog 99 #[.int .u64 1, .int .u64 n] w fun e w' => e = .returned (.tuple #[.int .u64 0, .int .u64 n]) ∧ Below w.heap.size w w' := by
  rcases (by omega : n = 1 ∨ n = 2 ∨ n = 3 ∨ n = 4 ∨ n = 5) with rfl | rfl | rfl | rfl | rfl
  all_goals
    go_enter Try.func99, Try.ntmps99
    go_wp2
    go_ret2
    exact ⟨rfl, Below.refl _ _⟩
set_option maxRecDepth 100000 in
set_option maxHeartbeats 4000000 in
theorem Mul_1 (n : Nat) (h1 : 1 ≤ n) (h5 : n ≤ 5) (w : World) :
    Calls Try.prog 85 #[.int .u64 1, .int .u64 n] w fun e w' => e = .returned (.tuple #[.int .u64 0, .int .u64 n]) ∧ Below w.heap.size w w' := by
  have HM := Lib.hid (fun W => Mul64_1 n h1 h5 W)
  go_enter Try.func85, Try.ntmps85
  go_wp2_with (go_at_call 99; refine (HM.out _).mono ?_; rintro e w1 ⟨rfl, hb1⟩)
  go_ret2
  exact ⟨rfl, hb1⟩
theorem rep_at (m : Nat) (x : Value) (j : Nat) (v : Value) (h : (List.replicate m x)[j]? = some v) : j < m ∧ v = x := by
  obtain ⟨hj, e⟩ := List.getElem?_eq_some_iff.1 h
  rw [List.getElem_replicate] at e
  exact ⟨by simpa using hj, e.symm⟩
/-- a row of which the first places hold a number -/
def rpS (n m : Nat) (L : Int) : List Value := List.replicate m (.int .i64 L) ++ List.replicate (n - m) (.int .i64 0)
theorem rpS_len (n m : Nat) (L : Int) (h : m ≤ n) : (rpS n m L).length = n := by simp [rpS]; omega
theorem rpS_splice (n m c : Nat) (L : Int) (h : m + c ≤ n) : splice (rpS n m L) m (List.replicate c (.int .i64 L)) = rpS n (m + c) L := by
  unfold splice rpS
  rw [List.take_append_of_le_length (by simp), List.take_of_length_le (by simp), List.length_replicate, List.drop_append, List.drop_of_length_le (by simp)]
  simp only [List.length_replicate, List.nil_append, List.drop_replicate]
  rw [← List.append_assoc, List.replicate_append_replicate]
  congr 2
  omega
theorem rpS_cell (W : World) (G n m : Nat) (L : Int) (t : TypeId) (h : W.heap[G]? = some (.cells (rpS n m L).toArray t (0, 0))) (j : Nat) (hj : j < m) : W.cell? ⟨G, j, none⟩ = some (.int .i64 L) := by
  unfold World.cell?
  rw [h]
  have : (rpS n m L)[j]? = some (.int .i64 L) := by
    unfold rpS
    rw [List.getElem?_append_left (by simpa using hj)]
    simp [hj]
  simpa using this
theorem madeIr (n : Nat) (h : n ≤ 5) : madeCells #[.int .i64 0] n = (rpS n 0 7).toArray := by
  rcases (by omega : n = 0 ∨ n = 1 ∨ n = 2 ∨ n = 3 ∨ n = 4 ∨ n = 5) with rfl | rfl | rfl | rfl | rfl | rfl <;> kernel_rfl
theorem rpS_0 (n : Nat) (L M : Int) : rpS n 0 L = rpS n 0 M := by simp [rpS]
theorem oneI : ∀ (c : Nat) (L : Int), ∀ v ∈ List.replicate c (Value.int IntKind.i64 L), v.oneCell' = true := fun c L v hv => by
  rw [List.eq_of_mem_replicate hv]; rfl
set_option maxRecDepth 100000 in
set_option maxHeartbeats 4000000 in
theorem Repeat1_any (q : Option Addr) (c : Nat) (L : Int) (n : Nat) (w : World) (h1 : 1 ≤ n) (h5 : n ≤ 5) (hr : RowV w q (flatI [L])) :
    Calls Try.prog 49 #[.slice q 1 c, .int .i64 n] w fun e w' => ∃ g, e = .returned (.slice (some ⟨g, 0, none⟩) n n) ∧ RowV w' (some ⟨g, 0, none⟩) (flatI (List.replicate n L)) ∧ Below w.heap.size w w' := by
  obtain ⟨i0, hi, hz0', hz1', hz2'⟩ := info_parts infoI
  have HI := Lib.hid hi
  have HZ0 := Lib.hid hz0'
  have HZ1 := Lib.hid hz1'
  have HZ2 := Lib.hid hz2'
  have HM := Lib.hid (fun W => Mul_1 n h1 h5 W)
  obtain ⟨b, off, rfl, hb, _⟩ := rowI_at hr (k := 0) (by simp) (Nat.le_refl _) (Below.refl _ _)
  have HR := Lib.hid hr
  have m0 : ¬ (n : Int) < 0 := by omega
  have m1 : ¬ (9223372036854775807 : Int) < (n : Int) := by omega
  have u1 : IntKind.u64.wrap (n : Int) = (n : Int) := by
    rcases (by omega : n = 1 ∨ n = 2 ∨ n = 3 ∨ n = 4 ∨ n = 5) with rfl | rfl | rfl | rfl | rfl <;> rfl
  have u2 : IntKind.i64.wrap (n : Int) = (n : Int) := IntWalk.i64_in _ ⟨by omega, by omega⟩
  clear hi hz0' hz1' hz2' hr
  go_enter Try.func49, Try.ntmps49
  go_upto_region 6 with (go_at_call 85; refine (HM.out _).mono ?_; rintro e w1 ⟨rfl, hb1⟩)
  go_upto_region 7 with (at_make; refine wpList_make_row w1 rfl (.tmp 29) (.tmp 29) 36 rfl 3 i0 (.int .i64 0) Try.underlying36 HI.out HZ0.out HZ1.out rfl .i64 .i64 n rfl rfl (by rw [HZ2.out]; omega) (by omega) ?_; rw [madeIr n h5, rpS_0 n 7 L])
  have hg0 : (w1.alloc (.cells (rpS n 0 L).toArray 3)).heap[w1.heap.size]? = some (.cells (rpS n 0 L).toArray 3 (0, 0)) := Go.heap_alloc_new w1 _
  have A0 : Below w1.heap.size w1 (w1.alloc (.cells (rpS n 0 L).toArray 3)) := (Below.refl _ _).alloc (Nat.le_refl _) _
  have hbL := (hb1.on A0).cell (p := ⟨b, off + 0, none⟩) hb
  obtain ⟨b', o', e', _, hc0⟩ := rowI_at HR.out (k := 0) (by simp) (Nat.le_refl _) (hb1.on A0)
  injection e' with e'
  injection e' with e1 e2 e3
  subst e1 e2
  have HG0 := Lib.hid hg0
  have HB0 := Lib.hid ((hb1.on A0).mono (Nat.le_refl w.heap.size))
  have HA0 := Lib.hid A0
  have HB1 := Lib.hid hb1
  have HC0 := Lib.hid hc0
  have hz1 := hb1.size
  clear hg0 A0 hbL hb1 hc0
  generalize (w1.alloc (.cells (rpS n 0 L).toArray 3)) = W2 at *
  generalize hG : w1.heap.size = G at *
  have hnG : (Nat.min 1 n) = 1 := Nat.min_eq_left h1
  have HSRC : Hid (∀ j v, (List.replicate 1 (Value.int IntKind.i64 L))[j]? = some v → W2.cell? ((⟨b, off, none⟩ : Addr).add j) = some v) := Lib.hid fun j v hj => by
    obtain ⟨h0, h1⟩ := rep_at 1 _ j v hj
    have hj0 : j = 0 := by clear u1 u2; omega
    subst hj0
    rw [h1]
    exact HC0.out
  go_upto_region 8 with (with_reducible refine wpList_copy_splice rfl (.tmp 31) (.tmp 32) 36 36 rfl 3 Try.underlying36 (by kernel_rfl) (some ⟨G, 0, none⟩) (some ⟨b, off, none⟩) n n 1 c rfl rfl G 0 (rpS n 0 L) 3 HG0.out (List.replicate 1 (.int .i64 L)) (by rw [List.length_replicate, hnG]) (fun _ => ⟨rfl, _, rfl, HSRC.out⟩) (by rw [rpS_len _ _ _ (by omega)]; simp; omega) (oneI 1 L) G w1 HA0.out (Nat.le_refl _) ?_; intro W3 hg3 hb3; rw [rpS_splice n 0 1 L (by omega)] at hg3)
  have HG3 := Lib.hid hg3
  have HB3 := Lib.hid hb3
  clear hg3 hb3 HA0 HG0 HC0 HB0 hnG
  go_wp2
  go_loopw [8] (fun i wr => ∃ m : Nat, 1 ≤ m ∧ m ≤ n ∧ i = .int .i64 m ∧ Hid (wr.heap[G]? = some (.cells (rpS n m L).toArray 3 (0, 0))) ∧ Hid (Below G w1 wr)) (fun i _ => n - (intOf i).toNat)
  case atStart => exact ⟨1, Nat.le_refl _, h1, rfl, HG3, HB3⟩
  case round =>
    obtain ⟨m, hm1, hmn, rfl, HG, HB⟩ := hrel
    by_cases hlt : m < n
    · obtain ⟨d, hd⟩ : ∃ d, Nat.min m (n - m) = d := ⟨_, rfl⟩
      have hd1 : 1 ≤ d := by rw [← hd]; exact Nat.le_min.2 ⟨hm1, by omega⟩
      have hd2 : m + d ≤ n := by have : d ≤ n - m := by rw [← hd]; exact Nat.min_le_right _ _
                                 omega
      have hd3 : d ≤ m := by rw [← hd]; exact Nat.min_le_left _ _
      have i0 : (0 : Int) ≤ (m : Int) := by omega
      have i1 : (m : Int) ≤ (n : Int) := by omega
      have i2 : (m : Int) < (n : Int) := by omega
      have i3 : ¬ n = m := by omega
      have i4 : IntKind.i64.wrap ((m : Int) + (d : Int)) = ((m : Int) + (d : Int)) := IntWalk.i64_in _ ⟨by omega, by omega⟩
      have HCC := Lib.hid (fun j (hj : j < m) => rpS_cell wr G n m L 3 HG.out j hj)
      have HSP := Lib.hid (rpS_splice n m d L hd2)
      have HD := Lib.hid hd
      clear hd
      have HSRC : Hid (∀ j v, (List.replicate d (Value.int IntKind.i64 L))[j]? = some v → wr.drew.cell? ((⟨G, 0, none⟩ : Addr).add j) = some v) := Lib.hid fun j v hj => by
        obtain ⟨h0, h1⟩ := rep_at d _ j v hj
        rw [h1]
        have ea : (⟨G, 0, none⟩ : Addr).add j = ⟨G, j, none⟩ := by unfold Addr.add; split <;> simp_all
        rw [ea]
        exact HCC.out j (Nat.lt_of_lt_of_le h0 hd3)
      go_upto_region 9 with fail
      go_region_held3 (fun _ => True) (trivial)
        (first
        | (refine step_copy_splice rfl (.tmp 41) (.tmp 44) 36 36 rfl 3 Try.underlying36 (by kernel_rfl) (some ⟨G, m, none⟩) (some ⟨G, 0, none⟩) (n - m) (n - m) m n rfl rfl G m (rpS n m L) 3 HG.out (List.replicate d (.int .i64 L)) (by rw [List.length_replicate]; exact HD.out.symm) (fun _ => ⟨rfl, _, rfl, HSRC.out⟩) (by rw [rpS_len _ _ _ hmn, List.length_replicate]; exact hd2) (oneI d L) G w1 HB.out.drew (Nat.le_refl _) ?_; intro W4 hg4 hb4; rw [HSP.out] at hg4; rw [List.length_replicate])
        | fail)
      all_goals go_wp2
      all_goals go_roundw
      all_goals first
        | exact ⟨m + d, by omega, hd2, by go_num, hg4, Lib.hid hb4⟩
        | (simp [intOf]; omega)
    · obtain rfl : m = n := by omega
      have hcell := HG.out
      go_wp2
      go_ret
      refine ⟨G, rfl, .inr ⟨G, 0, rfl, ?_, fun i v hi => ?_⟩, HB1.out.trans (HB.out.mono (by omega))⟩
      · exact (Array.getElem?_eq_some_iff.1 hcell).1
      · have hv : v = .int .i64 L ∧ i < m := by
          unfold flatI at hi
          rw [List.map_replicate] at hi
          obtain ⟨h0, h1⟩ := rep_at m _ i v hi
          exact ⟨h1, h0⟩
        rw [hv.1, Nat.zero_add]
        exact rpS_cell wr G m m L 3 hcell i hv.2
end Go.Proofs.Ytffblmhaoekkgaa.prp
