/- Chapter 7, the walks: stones moved, sort.Search, Slack. -/
import Derived.Test.YtffblmhaoekkgaaPrpAC
namespace Go.Proofs.Ytffblmhaoekkgaa.prp
open Go.RowKit
set_option linter.unusedSimpArgs false
set_option linter.unusedVariables false

/-! stones moved -/
def mv1 (s : Sn) (d : Int) : Sn := ⟨s.half, s.at_ + d, s.least, s.most⟩
def mvTo (l : List Sn) (k : Nat) (d : Int) (j : Nat) : List Sn := (List.range l.length).map fun i => if k ≤ i ∧ i < j then mv1 (l.getD i zs) d else l.getD i zs
def mvS (l : List Sn) (k : Nat) (d : Int) : List Sn := mvTo l k d l.length
theorem mvTo_length (l : List Sn) (k : Nat) (d : Int) (j : Nat) : (mvTo l k d j).length = l.length := by simp [mvTo]
theorem mvTo_get (l : List Sn) (k : Nat) (d : Int) (j i : Nat) (hi : i < l.length) : (mvTo l k d j).getD i zs = if k ≤ i ∧ i < j then mv1 (l.getD i zs) d else l.getD i zs := by
  unfold mvTo; simp [hi]
theorem ext_getD {l m : List Sn} (hl : l.length = m.length) (h : ∀ i, i < l.length → l.getD i zs = m.getD i zs) : l = m := by
  refine List.ext_getElem hl fun i h1 h2 => ?_
  have := h i h1
  rwa [getD_eq l i zs h1, getD_eq m i zs h2] at this
theorem mvTo_start (l : List Sn) (k : Nat) (d : Int) : mvTo l k d k = l := by
  refine ext_getD (mvTo_length _ _ _ _) fun i hi => ?_
  rw [mvTo_length] at hi
  rw [mvTo_get _ _ _ _ _ hi, if_neg (by omega)]
theorem mvTo_set (l : List Sn) (k : Nat) (d : Int) (j : Nat) (hk : k ≤ j) (hj : j < l.length) : (mvTo l k d j).set j (mv1 (l.getD j zs) d) = mvTo l k d (j + 1) := by
  refine ext_getD (by rw [List.length_set, mvTo_length, mvTo_length]) fun i hi => ?_
  rw [List.length_set, mvTo_length] at hi
  rw [mvTo_get _ _ _ _ _ hi, List.getD_eq_getElem?_getD, List.getElem?_set]
  by_cases h : j = i
  · subst h; rw [if_pos rfl, if_pos (by rw [mvTo_length]; exact hj), if_pos ⟨hk, by omega⟩]; rfl
  · rw [if_neg h, ← List.getD_eq_getElem?_getD, mvTo_get _ _ _ _ _ hi]
    by_cases h2 : k ≤ i ∧ i < j
    · rw [if_pos h2, if_pos ⟨h2.1, by omega⟩]
    · rw [if_neg h2, if_neg (by omega)]
theorem flatS_at (l : List Sn) (k : Nat) (s : Sn) (a : Int) (hk : k < l.length) (hs : l.getD k zs = s) : (flatS l).set (k * 4 + 1) (.int .i64 a) = flatS (l.set k ⟨s.half, a, s.least, s.most⟩) := by
  rw [← flatS_set l k _ hk]
  obtain ⟨g0, g1, g2, g3⟩ := flatS_get l k hk
  rw [hs] at g0 g2 g3
  have self : ∀ (vs : List Value) j v, vs[j]? = some v → vs.set j v = vs := fun vs j v h => by
    obtain ⟨hj, e⟩ := List.getElem?_eq_some_iff.1 h
    rw [← e, List.set_getElem_self]
  simp only
  rw [self _ _ _ g0]
  rw [self ((flatS l).set (k * 4 + 1) _) (k * 4 + 2) _ (by rw [List.getElem?_set_ne (by omega)]; exact g2)]
  rw [self ((flatS l).set (k * 4 + 1) _) (k * 4 + 3) _ (by rw [List.getElem?_set_ne (by omega)]; exact g3)]
theorem OwnS.moved {w : World} {base g cap : Nat} {l : List Sn} {k : Nat} {d : Int} {j : Nat} (h : OwnS w base g cap (mvTo l k d j)) (hk : k ≤ j) (hj : j < l.length) :
    OwnS (w.setCell ⟨g, j * 4 + 1, none⟩ (.int .i64 ((l.getD j zs).at_ + d))) base g cap (mvTo l k d (j + 1)) ∧ Below base w (w.setCell ⟨g, j * 4 + 1, none⟩ (.int .i64 ((l.getD j zs).at_ + d))) := by
  have h0 := h.lt
  have h1 := World.ownsRow.stored h (j * 4 + 1) (.int .i64 ((l.getD j zs).at_ + d))
  refine ⟨?_, (Below.refl _ _).setCell (p := ⟨g, j * 4 + 1, none⟩) h0.1 _⟩
  have hs : (mvTo l k d j).getD j zs = l.getD j zs := by rw [mvTo_get _ _ _ _ _ hj, if_neg (by omega)]
  have e := flatS_at (mvTo l k d j) j (l.getD j zs) ((l.getD j zs).at_ + d) (by rw [mvTo_length]; exact hj) hs
  have e2 : (mvTo l k d j).set j ⟨(l.getD j zs).half, (l.getD j zs).at_ + d, (l.getD j zs).least, (l.getD j zs).most⟩ = mvTo l k d (j + 1) := mvTo_set l k d j hk hj
  rw [e2] at e
  have h3 := h1.1
  rw [e] at h3
  unfold OwnS
  rw [mvTo_length] at h3 ⊢
  exact h3
set_option maxRecDepth 100000 in
set_option maxHeartbeats 4000000 in
theorem moved_any (q : Option Addr) (c : Nat) (l : List Sn) (k : Nat) (d : Int) (w : World) (hr : RowV w q (flatS l)) (h1 : 1 ≤ l.length) (h5 : l.length ≤ 5) (hk : k ≤ l.length) (hok : ∀ s ∈ l, okS s) (hd : 0 ≤ d ∧ d ≤ 100000000) :
    Calls Try.prog 73 #[.slice q l.length c, .int .i64 k, .int .i64 d] w fun e w' => ∃ g cap, e = .returned (.slice (some ⟨g, 0, none⟩) l.length cap) ∧ OwnS w' w.heap.size g cap (mvS l k d) ∧ Below w.heap.size w w' := by
  have HCL := Lib.hid (cloneS_any q c l w hr h1 (by omega))
  have HOK := Lib.hid hok
  clear hr hok
  go_enter Try.func73, Try.ntmps73
  go_upto_region 2 with (go_at_call 36; refine HCL.out.mono ?_; rintro e W1 ⟨g, cap, rfl, hown, hb1⟩)
  rw [← mvTo_start l k d] at hown
  have HO := Lib.hid hown
  have HB := Lib.hid hb1
  have hgz := hown.lt.1
  clear hown hb1
  go_wp2
  go_loopw [8] (fun i wr => ∃ j : Nat, k ≤ j ∧ j ≤ l.length ∧ i = .int .i64 j ∧ Hid (OwnS wr w.heap.size g cap (mvTo l k d j)) ∧ Hid (Below w.heap.size w wr)) (fun i _ => l.length - (intOf i).toNat)
  case atStart => exact ⟨k, Nat.le_refl _, hk, rfl, HO, HB⟩
  case round =>
    obtain ⟨j, hkj, hj, rfl, HO2, HB2⟩ := hrel
    by_cases hlt : j < l.length
    · have hce := World.ownsRow.cellAt HO2.out (j * 4 + 1) (by rw [mvTo_length]; omega)
      obtain ⟨_, f1, _, _⟩ := flatS_get (mvTo l k d j) j (by rw [mvTo_length]; exact hlt)
      rw [mvTo_get _ _ _ _ _ hlt, if_neg (by omega)] at f1
      rw [f1] at hce
      have hfz := World.ownsRow.frozenAt HO2.out (j * 4 + 1)
      have hmv := HO2.out.moved hkj hlt
      have hso := HOK.out _ (getD_mem l j zs hlt)
      have hgl := HO2.out.lt.2
      generalize l.getD j zs = s at *
      obtain ⟨_, _, o3, o4, _⟩ := hso
      have HMV := Lib.hid hmv
      have hj5 : (j : Int) < 5 := by omega
      clear hmv f1
      go_wp2
      go_roundw
      case rel => exact ⟨j + 1, by omega, hlt, by go_num, Lib.hid HMV.out.1, Lib.hid (HB2.out.trans HMV.out.2)⟩
      case measure => simp [intOf]; omega
    · obtain rfl : j = l.length := by omega
      go_wp2
      go_ret
      exact ⟨g, cap, rfl, HO2.out, HB2.out⟩
set_option maxRecDepth 100000 in
set_option maxHeartbeats 4000000 in
/-- the law's own closure: stones moved -/
theorem moved1_any (q : Option Addr) (c : Nat) (l : List Sn) (k : Nat) (d : Int) (B1 B2 : Nat) (w : World) (hr : RowV w q (flatS l)) (h1 : 1 ≤ l.length) (h5 : l.length ≤ 5) (hk : k ≤ l.length) (hok : ∀ s ∈ l, okS s) (hd : 0 ≤ d ∧ d ≤ 100000000)
    (hc1 : SliceAt w B1 (.slice q l.length c)) (hc2 : SliceAt w B2 (.int .i64 k)) :
    Calls Try.prog 35 #[.int .i64 d, .pointer (some ⟨B1, 0, none⟩), .pointer (some ⟨B2, 0, none⟩)] w fun e w' => ∃ g cap, e = .returned (.slice (some ⟨g, 0, none⟩) l.length cap) ∧ OwnS w' w.heap.size g cap (mvS l k d) ∧ Below w.heap.size w w' := by
  have HCL := Lib.hid (cloneS_any q c l w hr h1 (by omega))
  have HOK := Lib.hid hok
  obtain ⟨z1, y1⟩ := hc1
  obtain ⟨z2, y2⟩ := hc2
  clear hr hok
  go_enter Try.func35, Try.ntmps35
  go_upto_region 2 with (go_at_call 36; refine HCL.out.mono ?_; rintro e W1 ⟨g, cap, rfl, hown, hb1⟩)
  have y3 := (hb1.cell (p := ⟨B2, 0, none⟩) z2).trans y2
  rw [← mvTo_start l k d] at hown
  have HO := Lib.hid hown
  have HB := Lib.hid hb1
  have hgz := hown.lt.1
  have z3 := hb1.size
  clear hown hb1
  go_wp2
  go_loopw [6] (fun i wr => ∃ j : Nat, k ≤ j ∧ j ≤ l.length ∧ i = .int .i64 j ∧ Hid (OwnS wr w.heap.size g cap (mvTo l k d j)) ∧ Hid (Below w.heap.size w wr)) (fun i _ => l.length - (intOf i).toNat)
  case atStart => exact ⟨k, Nat.le_refl _, hk, rfl, HO, HB⟩
  case round =>
    obtain ⟨j, hkj, hj, rfl, HO2, HB2⟩ := hrel
    by_cases hlt : j < l.length
    · have hce := World.ownsRow.cellAt HO2.out (j * 4 + 1) (by rw [mvTo_length]; omega)
      obtain ⟨_, f1, _, _⟩ := flatS_get (mvTo l k d j) j (by rw [mvTo_length]; exact hlt)
      rw [mvTo_get _ _ _ _ _ hlt, if_neg (by omega)] at f1
      rw [f1] at hce
      have hfz := World.ownsRow.frozenAt HO2.out (j * 4 + 1)
      have hmv := HO2.out.moved hkj hlt
      have hso := HOK.out _ (getD_mem l j zs hlt)
      have hgl := HO2.out.lt.2
      generalize l.getD j zs = s at *
      obtain ⟨_, _, o3, o4, _⟩ := hso
      have HMV := Lib.hid hmv
      have hj5 : (j : Int) < 5 := by omega
      clear hmv f1
      go_wp2
      go_roundw
      case rel => exact ⟨j + 1, by omega, hlt, by go_num, Lib.hid HMV.out.1, Lib.hid (HB2.out.trans HMV.out.2)⟩
      case measure => simp [intOf]; omega
    · obtain rfl : j = l.length := by omega
      go_wp2
      go_ret
      exact ⟨g, cap, rfl, HO2.out, HB2.out⟩
end Go.Proofs.Ytffblmhaoekkgaa.prp
