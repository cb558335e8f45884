/- The walks of split (package seam), at galleries and at places. -/
import Derived.Test.YtcalipoknbbaaaaApp
namespace Go.Proofs.Ytcalipoknbbaaaa
open Go.RowKit

/-- of the first k elements those whose index is in a list (b: true), or is not (b: false) -/
def selTo {α : Type} (b : Bool) (is : List Int) (l : List α) (k : Nat) : List α := ((l.take k).zipIdx.filter fun p => hasI is p.2 == b).map (·.1)
def sel {α : Type} (b : Bool) (is : List Int) (l : List α) : List α := (l.zipIdx.filter fun p => hasI is p.2 == b).map (·.1)

theorem selTo_zero {α : Type} (b : Bool) (is : List Int) (l : List α) : selTo b is l 0 = [] := by simp [selTo]
theorem selTo_all {α : Type} (b : Bool) (is : List Int) (l : List α) : selTo b is l l.length = sel b is l := by simp [selTo, sel]
theorem selTo_succ {α : Type} (b : Bool) (is : List Int) (l : List α) (k : Nat) (h : k < l.length) (d : α) :
    selTo b is l (k + 1) = selTo b is l k ++ (if hasI is k == b then [l.getD k d] else []) := by
  rw [getD_eq l k d h]
  unfold selTo
  rw [List.take_succ_eq_append_getElem h, List.zipIdx_append, List.filter_append, List.map_append]
  congr 1
  simp only [List.length_take, Nat.min_eq_left (Nat.le_of_lt h), Nat.zero_add, List.zipIdx_cons, List.zipIdx_nil, List.filter_cons, List.filter_nil]
  split <;> simp_all
theorem selTo_le {α : Type} (b : Bool) (is : List Int) (l : List α) (k : Nat) : (selTo b is l k).length ≤ k := by
  unfold selTo
  rw [List.length_map]
  refine Nat.le_trans (List.length_filter_le _ _) ?_
  simp
  omega

/-- two lists that lie apart -/
def Apart2 (v1 v2 : Value) : Prop := v1.ownBlock = none ∨ v2.ownBlock = none ∨ v1.ownBlock ≠ v2.ownBlock

/-- what split hands back: two lists, in new memory -/
def TwoG (w : World) (xs ys : List Gl) (e : Ending) (w' : World) : Prop :=
  ∃ q1 c1 q2 c2, e = .returned (.tuple #[.slice q1 xs.length c1, .slice q2 ys.length c2]) ∧ RowG w' q1 xs ∧ RowG w' q2 ys ∧ Below w.heap.size w w'
def TwoP (w : World) (xs ys : List Pl) (e : Ending) (w' : World) : Prop :=
  ∃ q1 c1 q2 c2, e = .returned (.tuple #[.slice q1 xs.length c1, .slice q2 ys.length c2]) ∧ RowP w' q1 xs ∧ RowP w' q2 ys ∧ Below w.heap.size w w'

/-- the two lists of split, while it goes -/
def MidG (w wr : World) (v1 v2 : Value) (xs ys : List Gl) : Prop :=
  wr.ownsRow w.heap.size 28 3 v1 xs.length (flatG xs) ∧ wr.ownsRow w.heap.size 28 3 v2 ys.length (flatG ys) ∧ Apart2 v1 v2 ∧ Below w.heap.size w wr
def MidP (w wr : World) (v1 v2 : Value) (xs ys : List Pl) : Prop :=
  wr.ownsRow w.heap.size 26 2 v1 xs.length (flatP xs) ∧ wr.ownsRow w.heap.size 26 2 v2 ys.length (flatP ys) ∧ Apart2 v1 v2 ∧ Below w.heap.size w wr

theorem apart_step {w : World} {v1 v1' v2 : Value} {base : Nat} {e : TypeId} {size n : Nat} {xs : List Value} (h2 : w.ownsRow base e size v2 n xs) (ha : Apart2 v1 v2) (hb : v1'.ownBlock = v1.ownBlock ∨ v1'.ownBlock = some w.heap.size) : Apart2 v1' v2 := by
  have hlt := h2.lt
  unfold Apart2 at *
  rcases hb with hb | hb
  · rw [hb]; exact ha
  · rw [hb]
    cases hv : v2.ownBlock with
    | none => exact .inr (.inl rfl)
    | some k =>
      have := (hlt k hv).2
      exact .inr (.inr (by intro e; injection e with e; omega))
theorem apart_swap {v1 v2 : Value} (h : Apart2 v1 v2) : Apart2 v2 v1 := by
  unfold Apart2 at *
  rcases h with h | h | h
  · exact .inr (.inl h)
  · exact .inl h
  · exact .inr (.inr (Ne.symm h))
theorem apart_kept {v1 v2 : Value} (h : Apart2 v1 v2) : v2.ownBlock = none ∨ v2.ownBlock ≠ v1.ownBlock := by
  unfold Apart2 at *
  rcases h with h | h | h
  · cases hv : v2.ownBlock with
    | none => exact .inl rfl
    | some k => exact .inr (by rw [h]; simp)
  · exact .inl h
  · exact .inr (Ne.symm h)

theorem MidG.one {w wr w1 : World} {v1 v2 v' : Value} {xs ys : List Gl} {g : Gl} {o o' : Obj} (h : MidG w wr v1 v2 xs ys) (hown : w1.ownsRow w.heap.size 28 3 v' (xs ++ [g]).length (flatG (xs ++ [g])))
    (hg : ((wr.alloc o).alloc o').grownBy w1 v1.ownBlock) (hb : v'.ownBlock = v1.ownBlock ∨ v'.ownBlock = some ((wr.alloc o).alloc o').heap.size) : MidG w w1 v' v2 (xs ++ [g]) ys := by
  obtain ⟨h1, h2, h3, h4⟩ := h
  have hs := h4.size
  have h2' := (h2.alloc o).alloc o'
  refine ⟨hown, h2'.kept hg (apart_kept h3), apart_step h2' h3 hb, ?_⟩
  exact ((h4.alloc hs o).alloc (by simp; omega) o').trans (grown_below ((h1.alloc o).alloc o') (by simp; omega) hg)
theorem MidG.two {w wr w1 : World} {v1 v2 v' : Value} {xs ys : List Gl} {g : Gl} {o o' : Obj} (h : MidG w wr v1 v2 xs ys) (hown : w1.ownsRow w.heap.size 28 3 v' (ys ++ [g]).length (flatG (ys ++ [g])))
    (hg : ((wr.alloc o).alloc o').grownBy w1 v2.ownBlock) (hb : v'.ownBlock = v2.ownBlock ∨ v'.ownBlock = some ((wr.alloc o).alloc o').heap.size) : MidG w w1 v1 v' xs (ys ++ [g]) := by
  obtain ⟨h1, h2, h3, h4⟩ := h
  obtain ⟨k1, k2, k3, k4⟩ := MidG.one (o := o) (o' := o') ⟨h2, h1, apart_swap h3, h4⟩ hown hg hb
  exact ⟨k2, k1, apart_swap k3, k4⟩
theorem MidP.one {w wr w1 : World} {v1 v2 v' : Value} {xs ys : List Pl} {g : Pl} {o o' : Obj} (h : MidP w wr v1 v2 xs ys) (hown : w1.ownsRow w.heap.size 26 2 v' (xs ++ [g]).length (flatP (xs ++ [g])))
    (hg : ((wr.alloc o).alloc o').grownBy w1 v1.ownBlock) (hb : v'.ownBlock = v1.ownBlock ∨ v'.ownBlock = some ((wr.alloc o).alloc o').heap.size) : MidP w w1 v' v2 (xs ++ [g]) ys := by
  obtain ⟨h1, h2, h3, h4⟩ := h
  have hs := h4.size
  have h2' := (h2.alloc o).alloc o'
  refine ⟨hown, h2'.kept hg (apart_kept h3), apart_step h2' h3 hb, ?_⟩
  exact ((h4.alloc hs o).alloc (by simp; omega) o').trans (grown_below ((h1.alloc o).alloc o') (by simp; omega) hg)
theorem MidP.two {w wr w1 : World} {v1 v2 v' : Value} {xs ys : List Pl} {g : Pl} {o o' : Obj} (h : MidP w wr v1 v2 xs ys) (hown : w1.ownsRow w.heap.size 26 2 v' (ys ++ [g]).length (flatP (ys ++ [g])))
    (hg : ((wr.alloc o).alloc o').grownBy w1 v2.ownBlock) (hb : v'.ownBlock = v2.ownBlock ∨ v'.ownBlock = some ((wr.alloc o).alloc o').heap.size) : MidP w w1 v1 v' xs (ys ++ [g]) := by
  obtain ⟨h1, h2, h3, h4⟩ := h
  obtain ⟨k1, k2, k3, k4⟩ := MidP.one (o := o) (o' := o') ⟨h2, h1, apart_swap h3, h4⟩ hown hg hb
  exact ⟨k2, k1, apart_swap k3, k4⟩

set_option maxHeartbeats 1000000 in
theorem splitG_any (q qi : Option Addr) (cap capi : Nat) (gs : List Gl) (is : List Int) (w : World) (hr : RowG w q gs) (hi : RowI w qi is) (hl : gs.length ≤ 1000000) (hli : is.length ≤ 1000000) :
    Calls Try.prog 112 #[.slice q gs.length cap, .slice qi is.length capi] w (TwoG w (sel true is gs) (sel false is gs)) := by
  go_enter Try.func112, Try.ntmps112
  go_wp2
  go_loopw [4, 5, 10] (fun v1 v2 i wr => ∃ k : Nat, k ≤ gs.length ∧ i = .int .i64 k ∧ MidG w wr v1 v2 (selTo true is gs k) (selTo false is gs k)) (fun _ _ i _ => gs.length - (intOf i).toNat)
  case atStart => exact ⟨0, Nat.zero_le _, rfl, by rw [selTo_zero, selTo_zero]; exact ⟨World.ownsRow_nil _ _ _ _, World.ownsRow_nil _ _ _ _, .inl rfl, Below.refl _ _⟩⟩
  case round =>
    obtain ⟨k, hk, rfl, hmid⟩ := hrel
    have hbel := hmid.2.2.2
    by_cases hlt : k < gs.length
    · obtain ⟨b, off, rfl, hb, h1, h2, h3⟩ := hr.at hlt (Nat.le_refl _) hbel
      have s1 := selTo_succ true is gs k hlt (0, 0, 0)
      have s2 := selTo_succ false is gs k hlt (0, 0, 0)
      have l1 := selTo_le true is gs k
      have l2 := selTo_le false is gs k
      have hown1 := hmid.1
      have hown2 := hmid.2.1
      have S1 := Lib.hid s1
      have S2 := Lib.hid s2
      have HM := Lib.hid hmid
      have H1 := Lib.hid hown1
      have H2 := Lib.hid hown2
      have HI := Lib.hid hi
      clear s1 s2 hmid hown1 hown2
      have hsz := hbel.size
      generalize gs.getD k (0, 0, 0) = g at h1 h2 h3 S1 S2
      go_wp2_with (first
        | (go_at_call 135; refine (containsI_any k qi capi is _ ((HI.out.below (Nat.le_refl _) hbel).below (Nat.le_refl _) ((Below.refl _ _).alloc (Nat.le_refl _) _)) hli).mono ?_; rintro e w' ⟨rfl, rfl⟩)
        | (at_builtin; refine app_gal _ rfl (.tmp 18) (.tmp 20) rfl w.heap.size u4 _ g rfl ((H1.out.alloc _).alloc _) (wr.heap.size + 1) 1 rfl (by simp) (by simp) (by simp) (by omega) (by simp; omega) ?_; intro v' w1 hown' hgrow hblk)
        | (at_builtin; refine app_gal _ rfl (.tmp 22) (.tmp 24) rfl w.heap.size u5 _ g rfl ((H2.out.alloc _).alloc _) (wr.heap.size + 1) 1 rfl (by simp) (by simp) (by simp) (by omega) (by simp; omega) ?_; intro v' w1 hown' hgrow hblk))
      · have hy : hasI is (k : Int) = true := by assumption
        have hmid' := MidG.one HM.out hown' hgrow hblk
        go_roundw
        case rel => exact ⟨k + 1, hlt, by go_num, by rw [S1.out, S2.out, hy]; simpa using hmid'⟩
        case measure => simp [intOf]; omega
      · have hy : hasI is (k : Int) = false := by assumption
        have hmid' := MidG.two HM.out hown' hgrow hblk
        go_roundw
        case rel => exact ⟨k + 1, hlt, by go_num, by rw [S1.out, S2.out, hy]; simpa using hmid'⟩
        case measure => simp [intOf]; omega
    · obtain rfl : k = gs.length := by omega
      rw [selTo_all, selTo_all] at hmid
      obtain ⟨h1, h2, _, _⟩ := hmid
      obtain ⟨q1, c1, rfl, r1⟩ := rowG_of_owns h1
      obtain ⟨q2, c2, rfl, r2⟩ := rowG_of_owns h2
      clear h1 h2
      go_wp2
      go_ret2
      exact ⟨q1, c1, q2, c2, rfl, r1, r2, hbel⟩

set_option maxHeartbeats 1000000 in
theorem splitP_any (q qi : Option Addr) (cap capi : Nat) (gs : List Pl) (is : List Int) (w : World) (hr : RowP w q gs) (hi : RowI w qi is) (hl : gs.length ≤ 1000000) (hli : is.length ≤ 1000000) :
    Calls Try.prog 114 #[.slice q gs.length cap, .slice qi is.length capi] w (TwoP w (sel true is gs) (sel false is gs)) := by
  go_enter Try.func114, Try.ntmps114
  go_wp2
  go_loopw [4, 5, 10] (fun v1 v2 i wr => ∃ k : Nat, k ≤ gs.length ∧ i = .int .i64 k ∧ MidP w wr v1 v2 (selTo true is gs k) (selTo false is gs k)) (fun _ _ i _ => gs.length - (intOf i).toNat)
  case atStart => exact ⟨0, Nat.zero_le _, rfl, by rw [selTo_zero, selTo_zero]; exact ⟨World.ownsRow_nil _ _ _ _, World.ownsRow_nil _ _ _ _, .inl rfl, Below.refl _ _⟩⟩
  case round =>
    obtain ⟨k, hk, rfl, hmid⟩ := hrel
    have hbel := hmid.2.2.2
    by_cases hlt : k < gs.length
    · obtain ⟨b, off, rfl, hb, h1, h2⟩ := hr.at hlt (Nat.le_refl _) hbel
      have s1 := selTo_succ true is gs k hlt (0, 0)
      have s2 := selTo_succ false is gs k hlt (0, 0)
      have l1 := selTo_le true is gs k
      have l2 := selTo_le false is gs k
      have hown1 := hmid.1
      have hown2 := hmid.2.1
      have S1 := Lib.hid s1
      have S2 := Lib.hid s2
      have HM := Lib.hid hmid
      have H1 := Lib.hid hown1
      have H2 := Lib.hid hown2
      have HI := Lib.hid hi
      clear s1 s2 hmid hown1 hown2
      have hsz := hbel.size
      generalize gs.getD k (0, 0) = g at h1 h2 S1 S2
      go_wp2_with (first
        | (go_at_call 135; refine (containsI_any k qi capi is _ ((HI.out.below (Nat.le_refl _) hbel).below (Nat.le_refl _) ((Below.refl _ _).alloc (Nat.le_refl _) _)) hli).mono ?_; rintro e w' ⟨rfl, rfl⟩)
        | (at_builtin; refine app_place _ rfl (.tmp 18) (.tmp 20) rfl w.heap.size u4 _ g rfl ((H1.out.alloc _).alloc _) (wr.heap.size + 1) 1 rfl (by simp) (by simp) (by omega) (by simp; omega) ?_; intro v' w1 hown' hgrow hblk)
        | (at_builtin; refine app_place _ rfl (.tmp 22) (.tmp 24) rfl w.heap.size u5 _ g rfl ((H2.out.alloc _).alloc _) (wr.heap.size + 1) 1 rfl (by simp) (by simp) (by omega) (by simp; omega) ?_; intro v' w1 hown' hgrow hblk))
      · have hy : hasI is (k : Int) = true := by assumption
        have hmid' := MidP.one HM.out hown' hgrow hblk
        go_roundw
        case rel => exact ⟨k + 1, hlt, by go_num, by rw [S1.out, S2.out, hy]; simpa using hmid'⟩
        case measure => simp [intOf]; omega
      · have hy : hasI is (k : Int) = false := by assumption
        have hmid' := MidP.two HM.out hown' hgrow hblk
        go_roundw
        case rel => exact ⟨k + 1, hlt, by go_num, by rw [S1.out, S2.out, hy]; simpa using hmid'⟩
        case measure => simp [intOf]; omega
    · obtain rfl : k = gs.length := by omega
      rw [selTo_all, selTo_all] at hmid
      obtain ⟨h1, h2, _, _⟩ := hmid
      obtain ⟨q1, c1, rfl, r1⟩ := rowP_of_owns h1
      obtain ⟨q2, c2, rfl, r2⟩ := rowP_of_owns h2
      clear h1 h2
      go_wp2
      go_ret2
      exact ⟨q1, c1, q2, c2, rfl, r1, r2, hbel⟩
end Go.Proofs.Ytcalipoknbbaaaa
