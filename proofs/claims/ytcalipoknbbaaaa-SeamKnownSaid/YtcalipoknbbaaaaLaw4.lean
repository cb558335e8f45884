/- hill, H, K, P (helpers of the law). -/
import Derived.Test.YtcalipoknbbaaaaLaw3
import Derived.Deep.Onto
import Derived.Deep.RegionLaw
namespace Go.Proofs.Ytcalipoknbbaaaa
open Go.RowKit

/-- the galleries that numbers tell, three each -/
def triplesTo (xs : List Int) (k : Nat) : List Gl := (List.range k).map fun j : Nat => (xs.getD (3 * j) 0, xs.getD (3 * j + 1) 0, xs.getD (3 * j + 2) 0)
def galsOf (xs : List Int) : List Gl := triplesTo xs (xs.length / 3)
theorem triplesTo_succ (xs : List Int) (k : Nat) : triplesTo xs (k + 1) = triplesTo xs k ++ [(xs.getD (3 * k) 0, xs.getD (3 * k + 1) 0, xs.getD (3 * k + 2) 0)] := by
  unfold triplesTo; rw [List.range_succ, List.map_append]; rfl
theorem triplesTo_length (xs : List Int) (k : Nat) : (triplesTo xs k).length = k := by simp [triplesTo]

/-- a hill whose galleries lie in new memory -/
def HillPost (w : World) (n : Int) (gs : List Gl) (e : Ending) (w' : World) : Prop :=
  ∃ q c, e = .returned (.agg #[.int .i64 n, .slice q gs.length c]) ∧ w'.ownsRow w.heap.size 28 3 (.slice q gs.length c) gs.length (flatG gs) ∧ Below w.heap.size w w'

/-- at a step of a region that draws: append(list, g): galleries -/
theorem step_gal (w : World) {ops : Array Oper} {o : Oper} {a : Act} {K : Act → World → Prop} {Q : Exit → Act → World → Prop} {E : Prop} (hgd : o.guard = none) (s x : Operand)
    (ho : o.op = .call { callee := .builtin .append, args := #[s, x], argTypes := #[22, 22] }) (base : Nat) (v : Value) (gs : List Gl) (g : Gl) (hs : a.eval s = v)
    (hown : w.ownsRow base 28 3 v gs.length (flatG gs)) (B c : Nat) (hx : a.eval x = .slice (some ⟨B, 0, none⟩) 1 c)
    (hc1 : w.cell? ⟨B, 0, none⟩ = some (.int .i64 g.1)) (hc2 : w.cell? ⟨B, 1, none⟩ = some (.int .i64 g.2.1)) (hc3 : w.cell? ⟨B, 2, none⟩ = some (.int .i64 g.2.2))
    (hl : gs.length ≤ 1000000) (hbase : base ≤ w.heap.size)
    (h : ∀ v' w', w'.ownsRow base 28 3 v' (gs ++ [g]).length (flatG (gs ++ [g])) → w.grownBy w' v.ownBlock → (v'.ownBlock = v.ownBlock ∨ v'.ownBlock = some w.heap.size) → K (a.put o.dst v') w') :
    if Region.wanted o (yielded ops a.tmps) = true then Oper.wp Try.prog o a w K Q else E := by
  obtain ⟨i0, hi, hz0, hz1, hz2⟩ := info_parts info28
  refine step_append_lies w hgd s x 22 ho base 28 i0 _ 3 24 Try.underlying22 hi hz0 hz1 hz2 rfl (by decide) v gs.length (flatG gs) hs hown ⟨B, 0, none⟩ 1 c [.int .i64 g.1, .int .i64 g.2.1, .int .i64 g.2.2] hx rfl ?_ ?_ (by decide) (by unfold maxLen; omega) (by omega) hbase _ rfl ?_
  · intro j u hj
    rw [addr_add]
    match j, hj with
    | 0, hj => simp at hj; subst hj; exact hc1
    | 1, hj => simp at hj; subst hj; exact hc2
    | 2, hj => simp at hj; subst hj; exact hc3
  · intro u hu
    simp at hu
    rcases hu with rfl | rfl | rfl <;> rfl
  · intro g' cap' w' h1 h2 h3 h4
    refine h _ w' ?_ h2 ?_
    · rw [flatG_snoc, List.length_append]
      exact h1
    · rcases h3 with h3 | h3
      · exact .inl (by rw [h3]; rfl)
      · exact .inr (by rw [h3]; rfl)

theorem ownsRow_setCell {w : World} {base : Nat} {e : TypeId} {size : Nat} {v : Value} {n : Nat} {xs : List Value} (h : w.ownsRow base e size v n xs) (a : Addr) (u : Value) (ha : a.block < base) : (w.setCell a u).ownsRow base e size v n xs := by
  obtain ⟨h1, h2 | ⟨g, cap, cur, rfl, hb, hg, r⟩⟩ := h
  · exact ⟨h1, .inl h2⟩
  · exact ⟨h1, .inr ⟨g, cap, cur, rfl, hb, by rw [heap_setCell_other w a g u (by omega)]; exact hg, r⟩⟩
theorem owns_cap {w : World} {base : Nat} {e : TypeId} {v : Value} {gs : List Gl} (h : w.ownsRow base e 3 v gs.length (flatG gs)) : ∃ q cap, v = .slice q gs.length cap ∧ RowG w q gs ∧ (q = none → cap = 0) := by
  obtain ⟨q, c, rfl, hr⟩ := rowG_of_owns h
  refine ⟨q, c, rfl, hr, ?_⟩
  rintro rfl
  obtain ⟨_, ⟨h2, _⟩ | ⟨g, cap, cur, h2, _⟩⟩ := h
  · injection h2
  · cases h2

theorem grown_al {w w' : World} {o : Obj} {base : Nat} {e : TypeId} {size : Nat} {v : Value} {n : Nat} {xs : List Value} (hown : w.ownsRow base e size v n xs) (hb : base ≤ w.heap.size) (hg : (w.alloc o).grownBy w' v.ownBlock) : Below base w w' :=
  ((Below.refl base w).alloc hb o).trans (grown_below (hown.alloc o) (by simp; omega) hg)

theorem keep5 {N : Nat} {W W' : World} {b o1 o2 o3 : Nat} {x y z : Value} (hb : Below N W W') (h1 : b < N) (k1 : W.cell? ⟨b, o1, none⟩ = some x) (k2 : W.cell? ⟨b, o2, none⟩ = some y) (k3 : W.cell? ⟨b, o3, none⟩ = some z)
    :
    W'.cell? ⟨b, o1, none⟩ = some x ∧ W'.cell? ⟨b, o2, none⟩ = some y ∧ W'.cell? ⟨b, o3, none⟩ = some z :=
  ⟨(hb.cell (p := ⟨b, o1, none⟩) h1).trans k1, (hb.cell (p := ⟨b, o2, none⟩) h1).trans k2, (hb.cell (p := ⟨b, o3, none⟩) h1).trans k3⟩
theorem keep5s {W : World} {B b o1 o2 o3 : Nat} {x y z : Value} (hne : b ≠ B) (u : Value)
    (h : W.cell? ⟨b, o1, none⟩ = some x ∧ W.cell? ⟨b, o2, none⟩ = some y ∧ W.cell? ⟨b, o3, none⟩ = some z) :
    (W.setCell ⟨B, 1, none⟩ u).cell? ⟨b, o1, none⟩ = some x ∧ (W.setCell ⟨B, 1, none⟩ u).cell? ⟨b, o2, none⟩ = some y ∧ (W.setCell ⟨B, 1, none⟩ u).cell? ⟨b, o3, none⟩ = some z := by
  have hn : ∀ o, (⟨b, o, none⟩ : Addr) ≠ ⟨B, 1, none⟩ := by intro o e; injection e with e; exact hne e
  rw [World.cell?_setCell_other (h := (hn o1).symm), World.cell?_setCell_other (h := (hn o2).symm), World.cell?_setCell_other (h := (hn o3).symm)]
  exact h

theorem Cell2.set1 {W : World} {B : Nat} {a b : Value} (h : Cell2 W B a b) (y : Value) : Cell2 (W.setCell ⟨B, 1, none⟩ y) B a y := by
  obtain ⟨h0, h1, h2, h4, h5⟩ := h
  have n01 : (⟨B, 0, none⟩ : Addr) ≠ ⟨B, 1, none⟩ := by simp
  refine ⟨by simp only [World.size_setCell]; exact h0, ?_, ?_, ?_, ?_⟩
  · rw [World.cell?_setCell_other (h := n01.symm), h1]
  · rw [World.cell?_setCell_same (h := h2)]
  · simpa using h4
  · simpa using h5
theorem Cell2.far {W : World} {B C i : Nat} {a b : Value} (h : Cell2 W B a b) (hne : C ≠ B) (y : Value) : Cell2 (W.setCell ⟨C, i, none⟩ y) B a b := by
  obtain ⟨h0, h1, h2, h4, h5⟩ := h
  have hn : ∀ o, (⟨C, i, none⟩ : Addr) ≠ ⟨B, o, none⟩ := by intro o e; injection e with e; exact hne e
  refine ⟨by simp only [World.size_setCell]; exact h0, ?_, ?_, ?_, ?_⟩
  · rw [World.cell?_setCell_other (h := hn 0), h1]
  · rw [World.cell?_setCell_other (h := hn 1), h2]
  · simpa using h4
  · simpa using h5

/-- one round of hill -/
theorem hill_step {w wr w2 w3 : World} {n : Int} {v u : Value} {gs : List Gl} (hc : Cell2 wr (w.heap.size + 1) (.int .i64 n) v) (hr : Cell2 wr w.heap.size (.int .i64 0) (.slice none 0 0)) (hbel : Below w.heap.size w wr) (h1 : Below wr.heap.size wr w2) (h2 : Below (w.heap.size + 2) w2 w3)
    (hown : w3.ownsRow (w.heap.size + 2) 28 3 u gs.length (flatG gs)) (hw1 : w.heap.size + 2 ≤ wr.heap.size) :
    (w3.setCell ⟨w.heap.size + 1, 1, none⟩ u).ownsRow (w.heap.size + 2) 28 3 u gs.length (flatG gs) ∧ Cell2 (w3.setCell ⟨w.heap.size + 1, 1, none⟩ u) (w.heap.size + 1) (.int .i64 n) u ∧
      Cell2 (w3.setCell ⟨w.heap.size + 1, 1, none⟩ u) w.heap.size (.int .i64 0) (.slice none 0 0) ∧ Below w.heap.size w (w3.setCell ⟨w.heap.size + 1, 1, none⟩ u) :=
  ⟨ownsRow_setCell hown _ u (show w.heap.size + 1 < w.heap.size + 2 by omega), (((hc.below (by omega) h1).below (by omega) h2).set1 u), (((hr.below (by omega) h1).below (by omega) h2).far (by omega) u),
    ((hbel.trans (h1.mono (by omega))).trans (h2.mono (by omega))).setCell (p := ⟨w.heap.size + 1, 1, none⟩) (by simp) u⟩

/-- at a step of a region that draws: the call of gallery -/
theorem step_gallery (w : World) {ops : Array Oper} {o : Oper} {a : Act} {K : Act → World → Prop} {Q : Exit → Act → World → Prop} {E : Prop} (hgd : o.guard = none) (x y z : Operand) (vx vy vz : Int)
    (ho : o.op = .call { callee := .value (.func 75), args := #[x, y, z], argTypes := #[3, 3, 3] }) (hx : a.eval x = .int .i64 vx) (hy : a.eval y = .int .i64 vy) (hz : a.eval z = .int .i64 vz)
    (h : ∀ w', Below w.heap.size w w' → K (a.put o.dst (.agg #[.int .i64 vx, .int .i64 vy, .int .i64 vz])) w') :
    if Region.wanted o (yielded ops a.tmps) = true then Oper.wp Try.prog o a w K Q else E := by
  have hw : Region.wanted o (yielded ops a.tmps) = true := by simp [Region.wanted, hgd]
  rw [if_pos hw]
  have he : a.eval (.func 75) = .func (.func 75) #[] #[] := rfl
  have hr : (execOp a.eval o).run Try.prog w = .ok (.enter 75 #[.int .i64 vx, .int .i64 vy, .int .i64 vz]) w := by
    unfold execOp
    simp only [ho, resolve, he, Deferred.ofValue, invoke, Sem.run_bind, Sem.run_pure, Result.andThen_ok, List.map_toArray, List.map_cons, List.map_nil, hx, hy, hz]
    simp
  unfold Oper.wp
  rw [hr, Oper.upon_enter]
  refine (gallery_any vx vy vz w).mono ?_
  rintro e w' ⟨rfl, hb⟩
  exact h w' hb

set_option maxRecDepth 100000 in
set_option maxHeartbeats 8000000 in
theorem hill_any (n : Int) (q : Option Addr) (cap : Nat) (xs : List Int) (w : World) (hr : RowI w q xs) (hl : xs.length ≤ 1000000) :
    Calls Try.prog 92 #[.int .i64 n, .slice q xs.length cap] w (HillPost w n (galsOf xs)) := by
  have HR := Lib.hid hr
  clear hr
  go_enter Try.func92, Try.ntmps92
  go_wp2
  have HB0 := Lib.hid (below_two w (.cells #[.int .i64 0, .slice none 0 0] 24) (.cells #[.int .i64 n, .slice none 0 0] 24))
  go_loopw [6] (fun i wr => ∃ k j : Nat, ∃ v, j = 3 * k ∧ j ≤ xs.length ∧ i = .int .i64 j ∧ wr.ownsRow (w.heap.size + 2) 28 3 v (triplesTo xs k).length (flatG (triplesTo xs k)) ∧ Cell2 wr (w.heap.size + 1) (.int .i64 n) v ∧ Cell2 wr w.heap.size (.int .i64 0) (.slice none 0 0) ∧ Below w.heap.size w wr) (fun i _ => xs.length - (intOf i).toNat)
  case atStart => exact ⟨0, 0, .slice none 0 0, rfl, Nat.zero_le _, rfl, World.ownsRow_nil _ _ _ _, ⟨by simp <;> omega, by simp, by simp, by simp, by simp⟩, ⟨by simp <;> omega, by simp, by simp, by simp, by simp⟩, HB0.out⟩
  case round =>
    obtain ⟨k, j, v, hkj, hj, rfl, hown, hcell, hres, hbel⟩ := hrel
    by_cases hlt : j + 2 < xs.length
    · obtain ⟨m, hm⟩ : ∃ m : Nat, m = j + 1 := ⟨_, rfl⟩
      obtain ⟨r, hr⟩ : ∃ r : Nat, r = j + 2 := ⟨_, rfl⟩
      obtain ⟨b, off, rfl, hz, g1⟩ := HR.out.at (show j < xs.length by omega) (Nat.le_refl _) hbel
      obtain ⟨b', off', e', hz', g2⟩ := HR.out.at (show m < xs.length by omega) (Nat.le_refl _) hbel
      obtain ⟨b3, off3, e3, hz3, g3⟩ := HR.out.at (show r < xs.length by omega) (Nat.le_refl _) hbel
      simp only [Option.some.injEq, Addr.mk.injEq] at e' e3
      obtain ⟨rfl, rfl, _⟩ := e'
      obtain ⟨rfl, rfl, _⟩ := e3
      have hst := triplesTo_succ xs k
      have hln := triplesTo_length xs k
      have HL := Lib.hid hln
      have HO := Lib.hid hown
      have HK := Lib.hid hkj
      have HC := Lib.hid hcell
      have HC2 := Lib.hid hres
      have hw1 : w.heap.size + 2 ≤ wr.heap.size := hcell.1
      rw [← hkj, ← hm, ← hr] at hst
      have HS := Lib.hid hst
      obtain ⟨y0, y1, y2, y3, y4⟩ := hcell
      clear hst hln hown hkj hres
      generalize xs.getD j 0 = x at g1 HS
      generalize xs.getD m 0 = y at g2 HS
      generalize xs.getD r 0 = z at g3 HS
      have hzb : b < wr.heap.size := by omega
      have hzb2 : b < w.heap.size + 2 := by omega
      have hbB : b ≠ w.heap.size + 1 := by omega
      have hz1b : w.heap.size + 1 < w.heap.size + 2 := by omega
      have i0 : (0 : Int) ≤ (j : Int) := by omega
      have i1 : (j : Int) < (xs.length : Int) := by omega
      have i2 : (j : Int) + 1 = (m : Int) := by omega
      have i3 : IntKind.i64.wrap (m : Int) = (m : Int) := IntWalk.i64_in _ ⟨by omega, by omega⟩
      have i4 : (0 : Int) ≤ (m : Int) := by omega
      have i5 : (m : Int) < (xs.length : Int) := by omega
      have i6 : (j : Int) + 2 = (r : Int) := by omega
      have i7 : IntKind.i64.wrap (r : Int) = (r : Int) := IntWalk.i64_in _ ⟨by omega, by omega⟩
      have i8 : (0 : Int) ≤ (r : Int) := by omega
      have i9 : (r : Int) < (xs.length : Int) := by omega
      have HM := Lib.hid hm
      have HRR := Lib.hid hr
      clear hm hr
      go_wp2
      go_region_law
        (first
          | (refine step_gallery _ (by rfl) _ _ _ x y z (by rfl) (by rfl) (by rfl) (by rfl) ?_; intro w2 hb2; have hbw : Below wr.heap.size wr w2 := ⟨hb2.os, hb2.tape, hb2.output, hb2.size, hb2.block⟩; have hz2b := Nat.le_trans hw1 hbw.size; have hzb3 := Nat.lt_of_lt_of_le hzb hbw.size; have hz1c := Nat.lt_of_lt_of_le y0 hbw.size; have k1 := (hbw.cell (p := ⟨b, off + j, none⟩) hzb).trans g1; have k2 := (hbw.cell (p := ⟨b, off + m, none⟩) hzb).trans g2; have k3 := (hbw.cell (p := ⟨b, off + r, none⟩) hzb).trans g3; have k4 := (hbw.cell (p := ⟨w.heap.size + 1, 1, none⟩) y0).trans y2; have k5 := (hbw.frozen (p := ⟨w.heap.size + 1, 1, none⟩) y0).trans y4; have HO2 := Lib.hid (owns_below HO.out (Nat.le_refl _) hbw))
          | (refine step_gal _ (by rfl) _ _ (by rfl) (w.heap.size + 2) _ (triplesTo xs k) (x, y, z) (by rfl) ((HO2.out.alloc _)) w2.heap.size 1 (by rfl) (by simp) (by simp) (by simp) (by rw [HL.out]; have := HK.out; omega) (by simp; omega) ?_; intro v' w3 hown3 hgrow hblk; obtain ⟨q', c', rfl, _, _⟩ := owns_cap hown3; (first | have hq := grown_al HO2.out hz2b hgrow | have hq := grown_drew HO2.out hz2b hgrow); have k6 := (hq.cell (p := ⟨w.heap.size + 1, 1, none⟩) hz1b).trans k4; have k7 := (hq.frozen (p := ⟨w.heap.size + 1, 1, none⟩) hz1b).trans k5))
      all_goals
        have hown4 : w3.ownsRow (w.heap.size + 2) 28 3 (.slice q' ((triplesTo xs k).length + 1) c') (triplesTo xs (k + 1)).length (flatG (triplesTo xs (k + 1))) := by
          rw [HS.out, show (triplesTo xs k).length + 1 = (triplesTo xs k ++ [(x, y, z)]).length from by simp]; exact hown3
        have hn := hill_step HC.out HC2.out hbel hbw hq hown4 hw1
        clear hown3 hown4
        go_wp2
        go_roundw
        case rel => exact ⟨k + 1, j + 3, _, by rw [HK.out]; omega, by have := HRR.out; omega, by go_num, hn⟩
        case measure => simp [intOf]; omega
    · have E1 := Lib.hid (show k = xs.length / 3 by omega)
      clear hkj
      obtain ⟨q1, cc, rfl, _, hn1⟩ := owns_cap hown
      have HO := Lib.hid hown
      clear hown
      have i2 : ¬ ((j : Int) + 2 < (xs.length : Int)) := by omega
      have H1 := Lib.hid hres
      have H2 := Lib.hid hbel
      obtain ⟨x0, x1, x2, x3, x4⟩ := hres
      obtain ⟨y0, y1, y2, y3, y4⟩ := hcell
      clear hn1
      go_wp2
      obtain ⟨k0, k1, k2, _, _⟩ := H1.out.set (.int .i64 n) (.slice q1 (triplesTo xs k).length cc)
      have hbn := (H2.out.setCell (p := ⟨w.heap.size, 0, none⟩) (Nat.le_refl _) (.int .i64 n)).setCell (p := ⟨w.heap.size, 1, none⟩) (Nat.le_refl _) (.slice q1 (triplesTo xs k).length cc)
      have r3 := ownsRow_setCell (ownsRow_setCell HO.out ⟨w.heap.size, 0, none⟩ (.int .i64 n) (show w.heap.size < _ by omega)) ⟨w.heap.size, 1, none⟩ (.slice q1 (triplesTo xs k).length cc) (show w.heap.size < _ by omega)
      generalize hW : ((wr.setCell ⟨w.heap.size, 0, none⟩ (.int .i64 n)).setCell ⟨w.heap.size, 1, none⟩ (.slice q1 (triplesTo xs k).length cc)) = W at *
      refine bodyPost_ret (by simp [results, Try.results92, go_sem, k1, k2]; try rfl) rfl ?_
      exact ⟨q1, cc, by rw [galsOf, ← E1.out] <;> try rfl, by rw [galsOf, ← E1.out]; exact r3.mono (by omega), hbn⟩
theorem rowI_new (w : World) (xs : List Int) (t : TypeId) (fr : Nat × Nat) : RowI (w.alloc (.cells (xs.map (Value.int .i64)).toArray t fr)) (some ⟨w.heap.size, 0, none⟩) xs := by
  refine .inr ⟨w.heap.size, 0, rfl, by simp, fun i hi => ?_⟩
  rw [cell_of_row _ w.heap.size (0 + i) _ t fr (heap_alloc_new w _), Nat.zero_add, getD_eq xs i 0 hi]
  simp [List.getElem?_eq_getElem hi]

def galsH : List Gl := [(1, 1, 3), (-1, 0, -2), (0, -1, -1)]
def galsK : List Gl := [(1, 1, 1), (-1, 0, -1), (0, -1, -1)]
def ptsP : List Pl := [(0, 0), (0, 4), (1, 1), (4, 0), (4, 4)]

end Go.Proofs.Ytcalipoknbbaaaa
