/- works (the chapter's examples): the rows that lie in memory meanwhile, and each call with them. -/
import Derived.Test.YtcalipoknbbaaaaLaw6
namespace Go.Proofs.Ytcalipoknbbaaaa
open Go.RowKit

/-- the rows that a walk keeps: galleries, places, ints, single cells -/
def Inv (w W : World) (G : List (Option Addr × Nat × List Gl)) (P : List (Option Addr × List Pl)) (I : List (Option Addr × List Int)) (C : List (Nat × Nat × Value)) : Prop :=
  (∀ x ∈ G, RowG W x.1 x.2.2 ∧ (x.1 = none → x.2.1 = 0)) ∧ (∀ x ∈ P, RowP W x.1 x.2) ∧ (∀ x ∈ I, RowI W x.1 x.2) ∧ (∀ x ∈ C, W.cell? ⟨x.1, x.2.1, none⟩ = some x.2.2 ∧ x.1 < W.heap.size) ∧ Below w.heap.size w W

variable {w W : World} {G : List (Option Addr × Nat × List Gl)} {P : List (Option Addr × List Pl)} {I : List (Option Addr × List Int)} {C : List (Nat × Nat × Value)}

theorem Inv.start (w : World) : Inv w w [] [] [] [] := ⟨by simp, by simp, by simp, by simp, Below.refl _ _⟩
theorem Inv.go {W' : World} (h : Inv w W G P I C) (hb : Below W.heap.size W W') : Inv w W' G P I C := by
  obtain ⟨h1, h2, h3, h4, h5⟩ := h
  refine ⟨fun x hx => ⟨(h1 x hx).1.below (Nat.le_refl _) hb, (h1 x hx).2⟩, fun x hx => (h2 x hx).below (Nat.le_refl _) hb, fun x hx => (h3 x hx).below (Nat.le_refl _) hb, fun x hx => ?_, h5.trans (hb.mono h5.size)⟩
  obtain ⟨k1, k2⟩ := h4 x hx
  exact ⟨(hb.cell (p := ⟨x.1, x.2.1, none⟩) k2).trans k1, Nat.lt_of_lt_of_le k2 hb.size⟩
theorem Inv.alloc (h : Inv w W G P I C) (o : Obj) : Inv w (W.alloc o) G P I C := h.go ((Below.refl _ _).alloc (Nat.le_refl _) o)
theorem Inv.addG {q : Option Addr} {c : Nat} {gs : List Gl} (h : Inv w W G P I C) (hr : RowG W q gs) (hq : q = none → c = 0) : Inv w W ((q, c, gs) :: G) P I C :=
  ⟨fun x hx => by rcases List.mem_cons.1 hx with rfl | hx; exact ⟨hr, hq⟩; exact h.1 x hx, h.2⟩
theorem Inv.addP {q : Option Addr} {ps : List Pl} (h : Inv w W G P I C) (hr : RowP W q ps) : Inv w W G ((q, ps) :: P) I C :=
  ⟨h.1, fun x hx => by rcases List.mem_cons.1 hx with rfl | hx; exact hr; exact h.2.1 x hx, h.2.2⟩
theorem Inv.addI {q : Option Addr} {xs : List Int} (h : Inv w W G P I C) (hr : RowI W q xs) : Inv w W G P ((q, xs) :: I) C :=
  ⟨h.1, h.2.1, fun x hx => by rcases List.mem_cons.1 hx with rfl | hx; exact hr; exact h.2.2.1 x hx, h.2.2.2⟩
theorem Inv.addC {b o : Nat} {v : Value} (h : Inv w W G P I C) (hc : W.cell? ⟨b, o, none⟩ = some v) (hb : b < W.heap.size) : Inv w W G P I ((b, o, v) :: C) :=
  ⟨h.1, h.2.1, h.2.2.1, fun x hx => by rcases List.mem_cons.1 hx with rfl | hx; exact ⟨hc, hb⟩; exact h.2.2.2.1 x hx, h.2.2.2.2⟩
theorem Inv.c (h : Inv w W G P I C) {b o : Nat} {v : Value} (hm : (b, o, v) ∈ C) : W.cell? ⟨b, o, none⟩ = some v := (h.2.2.2.1 _ hm).1

/-- a call that answers a value and makes at most new memory -/
theorem Inv.scalar {f : Nat} {args : Array Value} {V V' : Value} (h : Inv w W G P I C) (hc : Calls Try.prog f args W fun e W' => e = .returned V ∧ Below W.heap.size W W') (hv : V = V') :
    Calls Try.prog f args W fun e W' => e = .returned V' ∧ Inv w W' G P I C :=
  hc.mono fun _ _ ⟨he, hb⟩ => ⟨by rw [he, hv], h.go hb⟩
theorem Inv.hill {f : Nat} {args : Array Value} {n : Int} {gs : List Gl} (h : Inv w W G P I C) (hc : Calls Try.prog f args W (HillPost W n gs)) :
    Calls Try.prog f args W fun e W' => ∃ q c, e = .returned (.agg #[.int .i64 n, .slice q gs.length c]) ∧ Inv w W' ((q, c, gs) :: G) P I C :=
  hc.mono fun _ _ ⟨q, c, he, hown, hb⟩ => by
    obtain ⟨q', c', e', hr, hq⟩ := owns_cap hown
    injection e' with e1 _ e2
    subst e1; subst e2
    exact ⟨q, c, he, (h.go hb).addG hr hq⟩
theorem Inv.places {f : Nat} {args : Array Value} {ps : List Pl} (h : Inv w W G P I C) (hc : Calls Try.prog f args W (OneP W ps)) :
    Calls Try.prog f args W fun e W' => ∃ q c, e = .returned (.slice q ps.length c) ∧ Inv w W' G ((q, ps) :: P) I C :=
  hc.mono fun _ _ ⟨q, c, he, hr, hb⟩ => ⟨q, c, he, (h.go hb).addP hr⟩
theorem Inv.placesErr {f : Nat} {args : Array Value} {r : List Pl × Int} {ps : List Pl} {x : Int} (h : Inv w W G P I C) (hc : Calls Try.prog f args W (PlacesErr W r)) (hr : r = (ps, x)) :
    Calls Try.prog f args W fun e W' => ∃ q c, e = .returned (.tuple #[.slice q ps.length c, .int .i64 x]) ∧ Inv w W' G ((q, ps) :: P) I C := by
  subst hr
  exact hc.mono fun _ _ ⟨q, c, he, hr, hb⟩ => ⟨q, c, he, (h.go hb).addP hr⟩
theorem Inv.listErr {f : Nat} {args : Array Value} {r : List Int × Int} {xs : List Int} {x : Int} (h : Inv w W G P I C) (hc : Calls Try.prog f args W (ListErr W r)) (hr : r = (xs, x)) :
    Calls Try.prog f args W fun e W' => ∃ q c, e = .returned (.tuple #[.slice q xs.length c, .int .i64 x]) ∧ Inv w W' G P ((q, xs) :: I) C := by
  subst hr
  exact hc.mono fun _ _ ⟨q, c, he, hr, hb⟩ => ⟨q, c, he, (h.go hb).addI hr⟩
theorem Inv.hullP {f : Nat} {args : Array Value} {ps hs : List Pl} (h : Inv w W G P I C) (hc : Calls Try.prog f args W (HullPost W ps)) (h0 : errP ps = 0) (hh : ∀ l, IsHull ps l → l = hs) :
    Calls Try.prog f args W fun e W' => ∃ q c, e = .returned (.tuple #[.slice q hs.length c, .int .i64 0]) ∧ Inv w W' G ((q, hs) :: P) I C :=
  hc.mono fun _ _ ⟨l, err, hor, q, c, he, hr, hb⟩ => by
    rcases hor with ⟨h1, _⟩ | ⟨_, rfl, h2⟩
    · exact absurd h0 h1
    · obtain rfl := hh l h2
      exact ⟨q, c, he, (h.go hb).addP hr⟩

/-- lists that are typed out -/
theorem Inv.lit (h : Inv w W G P I C) (xs : List Int) : Inv w (W.alloc (.cells (xs.map (Value.int .i64)).toArray 3)) G P ((some ⟨W.heap.size, 0, none⟩, xs) :: I) C := (h.alloc _).addI (rowI_new W xs 3 (0, 0))
theorem Inv.list (h : Inv w W G P I C) (v : Value) : Calls Try.prog 73 #[v] W fun e W' => e = .returned v ∧ Inv w W' G P I C :=
  (list_any v W).mono fun _ _ ⟨he, hw⟩ => ⟨he, by rw [hw]; exact h⟩
theorem Inv.same (h : Inv w W G P I C) (q1 q2 : Option Addr) (c1 c2 : Nat) (xs ys : List Int) (b : Bool) (h1 : (q1, xs) ∈ I) (h2 : (q2, ys) ∈ I) (l1 : xs.length ≤ 1000000) (l2 : ys.length ≤ 1000000) (he : (xs == ys) = b) :
    Calls Try.prog 38 #[.slice q1 xs.length c1, .slice q2 ys.length c2] W fun e W' => e = .returned (.bool b) ∧ Inv w W' G P I C :=
  h.scalar (same_any q1 q2 c1 c2 xs ys W (h.2.2.1 _ h1) (h.2.2.1 _ h2) l1 l2) (by rw [he])
theorem Inv.alike (h : Inv w W G P I C) (q1 q2 : Option Addr) (c1 c2 : Nat) (xs ys : List Pl) (b : Bool) (h1 : (q1, xs) ∈ P) (h2 : (q2, ys) ∈ P) (l1 : xs.length ≤ 1000000) (l2 : ys.length ≤ 1000000) (he : (xs == ys) = b) :
    Calls Try.prog 65 #[.slice q1 xs.length c1, .slice q2 ys.length c2] W fun e W' => e = .returned (.bool b) ∧ Inv w W' G P I C :=
  h.scalar (alike_any q1 q2 c1 c2 xs ys W (h.2.1 _ h1) (h.2.1 _ h2) l1 l2) (by rw [he])
theorem Inv.gal (h : Inv w W G P I C) (a b c : Int) : Calls Try.prog 75 #[.int .i64 a, .int .i64 b, .int .i64 c] W fun e W' => e = .returned (.agg #[.int .i64 a, .int .i64 b, .int .i64 c]) ∧ Inv w W' G P I C :=
  h.scalar (gallery_any a b c W) rfl
end Go.Proofs.Ytcalipoknbbaaaa
