/- Package drain, the walks: Cost, Way. -/
import Derived.Test.YtadamjleglckpaaGreatDrnZ1
import Derived.Test.YtadamjleglckpaaGreatQa6
namespace Go.Proofs.YtadamjleglckpaaGreat.drn
open Go.RowKit
set_option linter.unusedSimpArgs false
set_option linter.unusedVariables false

theorem valid_plan {n : Int} {cs : List Ch} {l : List Int} (h : validOf n.toNat cs l = 0) : ∃ m : Nat, n = m ∧ Chs m cs ∧ Plan m cs l ∧ errD n cs = 0 := by
  have h0 : errD n cs = 0 := by
    apply Classical.byContradiction
    intro hne
    unfold validOf at h
    rw [errD_nat, if_pos hne] at h
    exact hne h
  obtain ⟨m, rfl, hc⟩ := chs_of h0
  rw [Int.toNat_natCast] at h
  exact ⟨m, rfl, hc, (validOf_iff h0 l).1 h, h0⟩
theorem plan_in {n : Nat} {cs : List Ch} (hc : Chs n cs) {l : List Int} (h : Plan n cs l) : InR cs l ∧ l.length ≤ 6 := by
  have h6 := (Ext.full hc.n6 hc.ok h.1).1
  have := hc.n6
  exact ⟨ext_in h.1, by omega⟩
def costR (n : Nat) (cs : List Ch) (l : List Int) : Int × Int := if validOf n cs l ≠ 0 then (0, validOf n cs l) else (costS cs l, 0)

set_option maxRecDepth 100000 in
theorem Cost_any (n : Int) (q : Option Addr) (cap : Nat) (cs : List Ch) (q2 : Option Addr) (c2 : Nat) (l : List Int) (w : World) (hr : RowV w q (flatT cs)) (hcap : cs.length ≤ cap) (hr2 : RowV w q2 (flatI l)) (hl : l.length ≤ 1000000) :
    Calls Tryz.prog 34 #[hillV n q cs.length cap, .slice q2 l.length c2] w (RetK w (costR n.toNat cs l).1 (costR n.toNat cs l).2) := by
  have hb0 : Below w.heap.size w (w.alloc (.cells #[.int .i64 n, .slice q cs.length cap] 24)) := (Below.refl _ _).alloc (Nat.le_refl _) _
  have c1 := Valid_any n q cap cs q2 c2 l _ (hr.below (Nat.le_refl _) hb0) hcap (hr2.below (Nat.le_refl _) hb0) hl
  have HB := Lib.hid hb0
  by_cases h0 : validOf n.toNat cs l = 0
  · obtain ⟨m, rfl, hchs, hpl, _⟩ := valid_plan h0
    obtain ⟨hin, hl6⟩ := plan_in hchs hpl
    have hans : costR ((m : Int).toNat) cs l = (costS cs l, 0) := by rw [costR, if_neg (fun h => h h0)]
    rw [hans]
    have hco := fun W hb => costOf_any m q cap cs q2 c2 l W hchs (hr.below (Nat.le_refl _) hb) (hr2.below (Nat.le_refl _) hb) hin (by omega)
    unfold hillV at *
    rw [h0] at c1
    have C1 := Lib.hid c1
    have HCO := Lib.hid hco
    clear hans h0 hr hr2 hb0 hchs c1 hco hin hpl
    go_enter Tryz.func34, Tryz.ntmps34
    go_wp2_with (first
      | (go_at_call 35; refine C1.out.mono ?_; rintro e w1 ⟨rfl, hb1⟩; obtain ⟨hc1, hf1⟩ := bcell hb1; have hac1 : Below w.heap.size w w1 := HB.out.on hb1; have hz0 : w.heap.size < w1.heap.size := (by have := hb1.size; simp at this; omega))
      | (go_at_call 87; refine (HCO.out w1 hac1).mono ?_; rintro e w2 ⟨rfl, hb2⟩))
    go_ret2
    exact ⟨rfl, hac1.on hb2⟩
  · have hans : costR n.toNat cs l = (0, validOf n.toNat cs l) := by rw [costR, if_pos h0]
    rw [hans]
    have hb : (validOf n.toNat cs l != 0) = true := by simpa using h0
    generalize validOf n.toNat cs l = err at c1 hb ⊢
    unfold hillV at *
    have C1 := Lib.hid c1
    clear hans h0 hr hr2 hb0 c1
    go_enter Tryz.func34, Tryz.ntmps34
    go_wp2_with (go_at_call 35; refine C1.out.mono ?_; rintro e w1 ⟨rfl, hb1⟩)
    go_ret2
    exact ⟨rfl, HB.out.on hb1⟩

set_option maxRecDepth 100000 in
set_option maxHeartbeats 1000000 in
theorem Way_any (n : Int) (q : Option Addr) (cap : Nat) (cs : List Ch) (q2 : Option Addr) (c2 : Nat) (l : List Int) (g : Int) (w : World) (hr : RowV w q (flatT cs)) (hcap : cs.length ≤ cap) (hr2 : RowV w q2 (flatI l)) (hl : l.length ≤ 1000000) :
    Calls Tryz.prog 37 #[hillV n q cs.length cap, .slice q2 l.length c2, .int .i64 g] w (RetI w (wayOf n.toNat cs l g).1 (wayOf n.toNat cs l g).2) := by
  have hb0 : Below w.heap.size w (w.alloc (.cells #[.int .i64 n, .slice q cs.length cap] 24)) := (Below.refl _ _).alloc (Nat.le_refl _) _
  have c1 := Valid_any n q cap cs q2 c2 l _ (hr.below (Nat.le_refl _) hb0) hcap (hr2.below (Nat.le_refl _) hb0) hl
  have HB := Lib.hid hb0
  by_cases h0 : validOf n.toNat cs l = 0
  · obtain ⟨m, rfl, hchs, hpl, _⟩ := valid_plan h0
    obtain ⟨hin, hl6⟩ := plan_in hchs hpl
    have heach := plan_each hchs.ok hpl
    have hok2 : ∀ c ∈ chosenS cs l, ChOk m c := heach.1
    have hreach := (wet_ways hchs.n6 heach).1 hpl.2.2
    have hcl : (chosenS cs l).length ≤ 14 := by simp [chosenS]; omega
    have hans : wayOf ((m : Int).toNat) cs l g = if !isGal m g then ([], 2) else (wayF m (chosenS cs l) m g, 0) := by
      unfold wayOf
      rw [if_neg (fun h => h h0), Int.toNat_natCast]
    have hhg := fun W => hasGallery_any m g q cs.length cap W
    simp only [isGal_eq] at hhg
    rw [hans]
    obtain ⟨gg, hgg⟩ : ∃ gg, isGal m g = gg := ⟨_, rfl⟩
    rw [hgg]
    simp only [hgg] at hhg
    unfold hillV at *
    rw [h0] at c1
    have C1 := Lib.hid c1
    have HHG := Lib.hid hhg
    cases gg with
    | false =>
      clear hans h0 hr hr2 hb0 hchs c1 hhg hin hpl heach hok2 hreach hcl hgg
      go_enter Tryz.func37, Tryz.ntmps37
      go_wp2_with (first
        | (go_at_call 35; refine C1.out.mono ?_; rintro e w1 ⟨rfl, hb1⟩; obtain ⟨hc1, hf1⟩ := bcell hb1; have hac1 : Below w.heap.size w w1 := HB.out.on hb1; have hz0 : w.heap.size < w1.heap.size := (by have := hb1.size; simp at this; omega))
        | (go_at_call 92; refine (HHG.out w1).mono ?_; rintro e w2 ⟨rfl, hb2⟩))
      go_ret2
      exact ⟨none, 0, rfl, .inl rfl, fun _ => rfl, by simp, hac1.on hb2⟩
    | true =>
      have hg2 := (isGal_iff _ _).1 hgg
      obtain ⟨g, rfl⟩ : ∃ i : Nat, g = i := ⟨g.toNat, by omega⟩
      have hgm : g < m := by omega
      have hpo := fun W => placeOf_any m g q cs.length cap W
      have hch := fun W hb => channelsOf_any m q cap cs W hchs (hr.below (Nat.le_refl _) hb)
      have hco := fun W q3 c3 hb h3 => chosen_any m q3 c3 cs q2 c2 l W h3 (hr2.below (Nat.le_refl _) hb) hin (by omega) hchs.many
      have hwf := fun W q4 c4 h4 => wayFrom_any m g q4 c4 (chosenS cs l) W hchs.n6 hcl hgm heach hreach h4
      obtain ⟨T, hT⟩ : ∃ T, plV m g = .iface T (.int .i64 g) := ⟨_, rfl⟩
      have hpo2 : ∀ W, Calls Tryz.prog 94 #[.agg #[.int .i64 m, .slice q cs.length cap], .int .i64 g] W fun e w' => e = .returned (.iface T (.int .i64 g)) ∧ Below W.heap.size W w' := fun W => by rw [← hT]; exact hpo W
      rw [hT] at hwf
      unfold hillV at *
      show Calls _ _ _ _ (RetI w (wayF m (chosenS cs l) m g) 0)
      generalize wayF m (chosenS cs l) m g = wy at hwf ⊢
      generalize chosenS cs l = chs at hco hwf
      have HPO := Lib.hid hpo2
      have HCH := Lib.hid hch
      have HCO := Lib.hid hco
      have HWF := Lib.hid hwf
      clear hans h0 hr hr2 hb0 hchs c1 hhg hin hpl heach hok2 hreach hcl hgg hpo hpo2 hch hco hwf hT
      go_enter Tryz.func37, Tryz.ntmps37
      go_upto_region 6 with (first
        | (go_at_call 35; refine C1.out.mono ?_; rintro e w1 ⟨rfl, hb1⟩; obtain ⟨hc1, hf1⟩ := bcell hb1; have hac1 : Below w.heap.size w w1 := HB.out.on hb1; have hz0 : w.heap.size < w1.heap.size := (by have := hb1.size; simp at this; omega))
        | (go_at_call 92; refine (HHG.out w1).mono ?_; rintro e w2 ⟨rfl, hb2⟩; have hac2 : Below w.heap.size w w2 := hac1.on hb2))
      obtain ⟨d0, d1⟩ : w1.cell? ⟨w.heap.size, 0, none⟩ = some (.int .i64 m) ∧ w1.cell? ⟨w.heap.size, 1, none⟩ = some (.slice q cs.length cap) := ⟨by rw [hc1 _ _ (by simp)]; simp, by rw [hc1 _ _ (by simp)]; simp⟩
      have e0 := (hb2.cell (p := ⟨w.heap.size, 0, none⟩) hz0).trans d0
      have e1 := (hb2.cell (p := ⟨w.heap.size, 1, none⟩) hz0).trans d1
      have hz2 : w.heap.size < w2.heap.size := Nat.lt_of_lt_of_le hz0 hb2.size
      clear hc1 hf1 d0 d1
      go_region_held3 (fun W => W.cell? ⟨w.heap.size, 0, none⟩ = some (.int .i64 m) ∧ W.cell? ⟨w.heap.size, 1, none⟩ = some (.slice q cs.length cap)) (first | exact ⟨e0, e1⟩ | exact ⟨f0, f1⟩ | exact ⟨g0, g1⟩ | exact ⟨j0, j1⟩ | exact ⟨k0, k1⟩ | go_keep)
        (first
        | (go_at_call 94; refine (HPO.out _).mono ?_; rintro e w3 ⟨rfl, hb3'⟩; have hb3 : Below w2.heap.size w2 w3 := (((Below.refl _ _).drew).on hb3'); have f0 := (hb3.cell (p := ⟨w.heap.size, 0, none⟩) hz2).trans e0; have f1 := (hb3.cell (p := ⟨w.heap.size, 1, none⟩) hz2).trans e1; have hac3 : Below w.heap.size w w3 := hac2.on hb3; have hz3 : w.heap.size < w3.heap.size := Nat.lt_of_lt_of_le hz2 hb3.size)
        | (go_at_call 53; refine (HCH.out w3 hac3).mono ?_; rintro e w4 ⟨v4, rfl, hown4, hb4⟩; have g0 := (hb4.cell (p := ⟨w.heap.size, 0, none⟩) hz3).trans f0; have g1 := (hb4.cell (p := ⟨w.heap.size, 1, none⟩) hz3).trans f1; have hac4 : Below w.heap.size w w4 := hac3.on hb4; have hz4 : w.heap.size < w4.heap.size := Nat.lt_of_lt_of_le hz3 hb4.size; obtain ⟨q4, c4, rfl, hrow4, _, _⟩ := rowV_of_owns hown4 (by intro h; rw [List.length_eq_zero_iff] at h; rw [h]; rfl))
        | (go_at_call 91; refine (HCO.out w4 q4 c4 hac4 hrow4).mono ?_; rintro e w5 ⟨v5, rfl, hown5, hb5⟩; have j0 := (hb5.cell (p := ⟨w.heap.size, 0, none⟩) hz4).trans g0; have j1 := (hb5.cell (p := ⟨w.heap.size, 1, none⟩) hz4).trans g1; have hac5 : Below w.heap.size w w5 := hac4.on hb5; have hz5 : w.heap.size < w5.heap.size := Nat.lt_of_lt_of_le hz4 hb5.size; obtain ⟨q5, c5, rfl, hrow5, _, _⟩ := rowV_of_owns hown5 (by intro h; rw [List.length_eq_zero_iff] at h; rw [h]; rfl))
        | (go_at_call 93; refine (HWF.out w5 q5 c5 hrow5).mono ?_; rintro e w6 ⟨v6, rfl, hown6, hb6⟩; have k0 := (hb6.cell (p := ⟨w.heap.size, 0, none⟩) hz5).trans j0; have k1 := (hb6.cell (p := ⟨w.heap.size, 1, none⟩) hz5).trans j1; obtain ⟨q6, c6, rfl, hrow6, hq6, hqb6⟩ := rowV_of_owns hown6 (by intro h; rw [List.length_eq_zero_iff] at h; rw [h]; rfl))
        | fail)
      clear e0 e1 f0 f1 g0 g1 j0 j1 k0 k1
      go_wp2
      go_ret2
      exact ⟨q6, c6, rfl, hrow6, hq6, fun a ha => ⟨Nat.le_trans hac5.size (hqb6 a ha).1, (hqb6 a ha).2⟩, hac5.on hb6⟩
  · have hans : wayOf n.toNat cs l g = ([], validOf n.toNat cs l) := by rw [wayOf, if_pos h0]
    rw [hans]
    have hb : (validOf n.toNat cs l != 0) = true := by simpa using h0
    generalize validOf n.toNat cs l = err at c1 hb ⊢
    unfold hillV at *
    have C1 := Lib.hid c1
    clear hans h0 hr hr2 hb0 c1
    go_enter Tryz.func37, Tryz.ntmps37
    go_wp2_with (go_at_call 35; refine C1.out.mono ?_; rintro e w1 ⟨rfl, hb1⟩)
    go_ret2
    exact ⟨none, 0, rfl, .inl rfl, fun _ => rfl, by simp, HB.out.on hb1⟩
end Go.Proofs.YtadamjleglckpaaGreat.drn
