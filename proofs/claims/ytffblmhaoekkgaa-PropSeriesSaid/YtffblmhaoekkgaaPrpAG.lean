/- PropScaled, plainly: the three piles. -/
import Derived.Test.YtffblmhaoekkgaaPrpAF
namespace Go.Proofs.Ytffblmhaoekkgaa.prp
open Go.RowKit
set_option linter.unusedSimpArgs false
set_option linter.unusedVariables false

def hv (s : Sn) : Sn := ⟨s.half, s.at_, min ((s.least + 1) / 2) (min 4 ((s.most + 1) / 2)), min 4 ((s.most + 1) / 2)⟩
def lg (F : Int) (s : Sn) : Sn := ⟨F * s.half, F * s.at_, s.least, s.most⟩
def hy (s : Sn) : Sn := ⟨s.half, s.at_, 2 * s.least, 2 * s.most⟩
/-- the first stones turned -/
def mpTo (f : Sn → Sn) (l : List Sn) (j : Nat) : List Sn := (List.range l.length).map fun i => if i < j then f (l.getD i zs) else l.getD i zs
theorem mpTo_length (f : Sn → Sn) (l : List Sn) (j : Nat) : (mpTo f l j).length = l.length := by simp [mpTo]
theorem mpTo_get (f : Sn → Sn) (l : List Sn) (j i : Nat) (hi : i < l.length) : (mpTo f l j).getD i zs = if i < j then f (l.getD i zs) else l.getD i zs := by
  unfold mpTo; simp [hi]
theorem mpTo_start (f : Sn → Sn) (l : List Sn) : mpTo f l 0 = l := by
  refine ext_getD (mpTo_length _ _ _) fun i hi => ?_
  rw [mpTo_length] at hi
  rw [mpTo_get _ _ _ _ hi, if_neg (by omega)]
theorem mpTo_end (f : Sn → Sn) (l : List Sn) : mpTo f l l.length = l.map f := by
  refine ext_getD (by rw [mpTo_length, List.length_map]) fun i hi => ?_
  rw [mpTo_length] at hi
  rw [mpTo_get _ _ _ _ hi, if_pos hi, getD_eq l i zs hi, getD_eq (l.map f) i zs (by rw [List.length_map]; exact hi), List.getElem_map]
theorem mpTo_set (f : Sn → Sn) (l : List Sn) (j : Nat) (hj : j < l.length) : (mpTo f l j).set j (f (l.getD j zs)) = mpTo f l (j + 1) := by
  refine ext_getD (by rw [List.length_set, mpTo_length, mpTo_length]) fun i hi => ?_
  rw [List.length_set, mpTo_length] at hi
  rw [mpTo_get _ _ _ _ hi, List.getD_eq_getElem?_getD, List.getElem?_set]
  by_cases h : j = i
  · subst h; rw [if_pos rfl, if_pos (by rw [mpTo_length]; exact hj), if_pos (by omega)]; rfl
  · rw [if_neg h, ← List.getD_eq_getElem?_getD, mpTo_get _ _ _ _ hi]
    by_cases h2 : i < j
    · rw [if_pos h2, if_pos (by omega)]
    · rw [if_neg h2, if_neg (by omega)]
theorem OwnS.low {w : World} {base base' g cap : Nat} {l : List Sn} (h : OwnS w base g cap l) (hb : base' ≤ base) : OwnS w base' g cap l := by
  obtain ⟨h1, ⟨e, _⟩ | ⟨g', cap', cur, e, hg, r⟩⟩ := h
  · cases e
  · exact ⟨h1, .inr ⟨g', cap', cur, e, by omega, r⟩⟩
theorem OwnS.drew {w : World} {base g cap : Nat} {l : List Sn} (h : OwnS w base g cap l) : OwnS w.drew base g cap l := h
/-- a store elsewhere -/
theorem OwnS.other {w : World} {base g cap : Nat} {l : List Sn} (h : OwnS w base g cap l) {base2 g2 cap2 n2 size2 : Nat} {e2 : TypeId} {xs2 : List Value} (h2 : w.ownsRow base2 e2 size2 (.slice (some ⟨g2, 0, none⟩) n2 cap2) n2 xs2) (hne : g ≠ g2) (o : Nat) (v : Value) : OwnS (w.setCell ⟨g2, o, none⟩ v) base g cap l :=
  World.ownsRow.kept h (World.ownsRow.stored h2 o v).2 (.inr (by simp only [Value.ownBlock]; intro e; injection e with e; exact hne e))
theorem OwnS.other2 {w : World} {base g cap : Nat} {l : List Sn} (h : OwnS w base g cap l) {base2 g2 cap2 : Nat} {l2 : List Sn} (h2 : OwnS w base2 g2 cap2 l2) (hne : g ≠ g2) (o o' : Nat) (v v' : Value) : OwnS ((w.setCell ⟨g2, o, none⟩ v).setCell ⟨g2, o', none⟩ v') base g cap l :=
  (h.other h2 hne o v).other (World.ownsRow.stored h2 o v).1 hne o' v'
theorem OwnS.other4 {w : World} {base g cap : Nat} {l : List Sn} (h : OwnS w base g cap l) {base2 g2 cap2 : Nat} {l2 : List Sn} (h2 : OwnS w base2 g2 cap2 l2) (hne : g ≠ g2) (o1 o2 o3 o4 : Nat) (v1 v2 v3 v4 : Value) : OwnS ((((w.setCell ⟨g2, o1, none⟩ v1).setCell ⟨g2, o2, none⟩ v2).setCell ⟨g2, o3, none⟩ v3).setCell ⟨g2, o4, none⟩ v4) base g cap l :=
  (((h.other h2 hne o1 v1).other (World.ownsRow.stored h2 o1 v1).1 hne o2 v2).other (World.ownsRow.stored (World.ownsRow.stored h2 o1 v1).1 o2 v2).1 hne o3 v3).other (World.ownsRow.stored (World.ownsRow.stored (World.ownsRow.stored h2 o1 v1).1 o2 v2).1 o3 v3).1 hne o4 v4
theorem flatS_least (l : List Sn) (k : Nat) (s : Sn) (a : Int) (hk : k < l.length) (hs : l.getD k zs = s) : (flatS l).set (k * 4 + 2) (.int .i64 a) = flatS (l.set k ⟨s.half, s.at_, a, s.most⟩) := by
  rw [← flatS_set l k _ hk]
  obtain ⟨g0, g1, g2, g3⟩ := flatS_get l k hk
  rw [hs] at g0 g1 g3
  have self : ∀ (vs : List Value) j v, vs[j]? = some v → vs.set j v = vs := fun vs j v h => by
    obtain ⟨hj, e⟩ := List.getElem?_eq_some_iff.1 h
    rw [← e, List.set_getElem_self]
  simp only
  rw [self _ _ _ g0, self _ _ _ g1]
  rw [self ((flatS l).set (k * 4 + 2) _) (k * 4 + 3) _ (by rw [List.getElem?_set_ne (by omega)]; exact g3)]
/-- the least weight of a stone written -/
theorem OwnS.least {w : World} {base g cap : Nat} {l : List Sn} (h : OwnS w base g cap l) (j : Nat) (hj : j < l.length) (s : Sn) (hs : l.getD j zs = s) (a : Int) :
    OwnS (w.setCell ⟨g, j * 4 + 2, none⟩ (.int .i64 a)) base g cap (l.set j ⟨s.half, s.at_, a, s.most⟩) ∧ Below base w (w.setCell ⟨g, j * 4 + 2, none⟩ (.int .i64 a)) := by
  have h0 := h.lt
  have h1 := (World.ownsRow.stored h (j * 4 + 2) (.int .i64 a)).1
  rw [flatS_least l j s a hj hs] at h1
  refine ⟨?_, (Below.refl _ _).setCell (p := ⟨g, j * 4 + 2, none⟩) h0.1 _⟩
  unfold OwnS
  rw [List.length_set]
  exact h1
/-- the four cells of a stone written -/
theorem OwnS.cells4 {w : World} {base g cap : Nat} {l : List Sn} (h : OwnS w base g cap l) (j : Nat) (hj : j < l.length) (s : Sn) :
    OwnS ((((w.setCell ⟨g, j * 4, none⟩ (.int .i64 s.half)).setCell ⟨g, j * 4 + 1, none⟩ (.int .i64 s.at_)).setCell ⟨g, j * 4 + 2, none⟩ (.int .i64 s.least)).setCell ⟨g, j * 4 + 3, none⟩ (.int .i64 s.most)) base g cap (l.set j s) ∧
      Below base w ((((w.setCell ⟨g, j * 4, none⟩ (.int .i64 s.half)).setCell ⟨g, j * 4 + 1, none⟩ (.int .i64 s.at_)).setCell ⟨g, j * 4 + 2, none⟩ (.int .i64 s.least)).setCell ⟨g, j * 4 + 3, none⟩ (.int .i64 s.most)) := by
  have h0 := h.lt
  have h1 := World.ownsRow.stored h (j * 4) (.int .i64 s.half)
  have h2 := World.ownsRow.stored h1.1 (j * 4 + 1) (.int .i64 s.at_)
  have h3 := World.ownsRow.stored h2.1 (j * 4 + 2) (.int .i64 s.least)
  have h4 := World.ownsRow.stored h3.1 (j * 4 + 3) (.int .i64 s.most)
  refine ⟨?_, ((((Below.refl _ _).setCell (p := ⟨g, j * 4, none⟩) h0.1 _).setCell (p := ⟨g, j * 4 + 1, none⟩) h0.1 _).setCell (p := ⟨g, j * 4 + 2, none⟩) h0.1 _).setCell (p := ⟨g, j * 4 + 3, none⟩) h0.1 _⟩
  have h5 := h4.1
  rw [flatS_set l j s hj] at h5
  unfold OwnS
  rw [List.length_set]
  exact h5
theorem OwnS.cellsAt {w : World} {base g cap : Nat} {l : List Sn} (h : OwnS w base g cap l) (j : Nat) (hj : j < l.length) :
    (w.cell? ⟨g, j * 4, none⟩ = some (.int .i64 (l.getD j zs).half) ∧ w.cell? ⟨g, j * 4 + 1, none⟩ = some (.int .i64 (l.getD j zs).at_) ∧ w.cell? ⟨g, j * 4 + 2, none⟩ = some (.int .i64 (l.getD j zs).least) ∧ w.cell? ⟨g, j * 4 + 3, none⟩ = some (.int .i64 (l.getD j zs).most)) ∧
    w.frozen? ⟨g, j * 4, none⟩ = false ∧ w.frozen? ⟨g, j * 4 + 1, none⟩ = false ∧ w.frozen? ⟨g, j * 4 + 2, none⟩ = false ∧ w.frozen? ⟨g, j * 4 + 3, none⟩ = false := by
  obtain ⟨f0, f1, f2, f3⟩ := flatS_get l j hj
  exact ⟨⟨(World.ownsRow.cellAt h (j * 4) (by omega)).trans f0, (World.ownsRow.cellAt h (j * 4 + 1) (by omega)).trans f1, (World.ownsRow.cellAt h (j * 4 + 2) (by omega)).trans f2, (World.ownsRow.cellAt h (j * 4 + 3) (by omega)).trans f3⟩,
    World.ownsRow.frozenAt h _, World.ownsRow.frozenAt h _, World.ownsRow.frozenAt h _, World.ownsRow.frozenAt h _⟩
end Go.Proofs.Ytffblmhaoekkgaa.prp
