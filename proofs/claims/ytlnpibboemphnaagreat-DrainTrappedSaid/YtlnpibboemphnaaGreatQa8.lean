/- Package drain, the walks: Cost, Way. -/
import Derived.Test.YtlnpibboemphnaaGreatQa7
import Derived.Test.YtlnpibboemphnaaGreatQa6
import Derived.Test.YtlnpibboemphnaaGreatQa5
import Derived.Laws.EntriesVeiled
import Derived.Orders
import Derived.Below
import Derived.Deep.MidRow
import Derived.Laws.AppendOwn

namespace Go.Proofs.YtlnpibboemphnaaGreat.drn
open Go.RowKit
set_option linter.unusedSimpArgs false
set_option linter.unusedVariables false

theorem valid_plan {n : Int} {cs : List Ch} {l : List Int} (h : validOf n.toNat cs l = 0) : ∃ m : Nat, n = m ∧ Chs m cs ∧ Plan m cs l ∧ errD n cs = 0 := by
  have h0 : errD n cs = 0 := by
    apply Classical.byContradiction
    intro hne
    unfold validOf at h
    rw [errD_nat, if_pos hne] at h
    exact hne h
  obtain ⟨m, rfl, hc⟩ := chs_of h0
  rw [Int.toNat_natCast] at h
  exact ⟨m, rfl, hc, (validOf_iff h0 l).1 h, h0⟩
theorem plan_in {n : Nat} {cs : List Ch} (hc : Chs n cs) {l : List Int} (h : Plan n cs l) : InR cs l ∧ l.length ≤ 6 := by
  have h6 := (Ext.full hc.n6 hc.ok h.1).1
  have := hc.n6
  exact ⟨ext_in h.1, by omega⟩
def costR (n : Nat) (cs : List Ch) (l : List Int) : Int × Int := if validOf n cs l ≠ 0 then (0, validOf n cs l) else (costS cs l, 0)

set_option maxRecDepth 100000 in
theorem Cost_any (n : Int) (q : Option Addr) (cap : Nat) (cs : List Ch) (q2 : Option Addr) (c2 : Nat) (l : List Int) (w : World) (hr : RowV w q (flatT cs)) (hcap : cs.length ≤ cap) (hr2 : RowV w q2 (flatI l)) (hl : l.length ≤ 1000000) :
    Calls Tryz.prog 44 #[hillV n q cs.length cap, .slice q2 l.length c2] w (RetK w (costR n.toNat cs l).1 (costR n.toNat cs l).2) := by
  have hb0 : Below w.heap.size w (w.alloc (.cells #[.int .i64 n, .slice q cs.length cap] 28)) := (Below.refl _ _).alloc (Nat.le_refl _) _
  have c1 := Valid_any n q cap cs q2 c2 l _ (hr.below (Nat.le_refl _) hb0) hcap (hr2.below (Nat.le_refl _) hb0) hl
  have HB := Lib.hid hb0
  by_cases h0 : validOf n.toNat cs l = 0
  · obtain ⟨m, rfl, hchs, hpl, _⟩ := valid_plan h0
    obtain ⟨hin, hl6⟩ := plan_in hchs hpl
    have hans : costR ((m : Int).toNat) cs l = (costS cs l, 0) := by rw [costR, if_neg (fun h => h h0)]
    rw [hans]
    have hco := fun W hb => costOf_any m q cap cs q2 c2 l W hchs (hr.below (Nat.le_refl _) hb) (hr2.below (Nat.le_refl _) hb) hin (by omega)
    unfold hillV at *
    rw [h0] at c1
    have C1 := Lib.hid c1
    have HCO := Lib.hid hco
    clear hans h0 hr hr2 hb0 hchs c1 hco hin hpl
    go_enter Tryz.func44, Tryz.ntmps44
    go_wp2_with (first
      | (go_at_call 45; refine C1.out.mono ?_; rintro e w1 ⟨rfl, hb1⟩; obtain ⟨hc1, hf1⟩ := bcell hb1; have hac1 : Below w.heap.size w w1 := HB.out.on hb1; have hz0 : w.heap.size < w1.heap.size := (by have := hb1.size; simp at this; omega))
      | (go_at_call 82; refine (HCO.out w1 hac1).mono ?_; rintro e w2 ⟨rfl, hb2⟩))
    go_ret2
    exact ⟨rfl, hac1.on hb2⟩
  · have hans : costR n.toNat cs l = (0, validOf n.toNat cs l) := by rw [costR, if_pos h0]
    rw [hans]
    have hb : (validOf n.toNat cs l != 0) = true := by simpa using h0
    generalize validOf n.toNat cs l = err at c1 hb ⊢
    unfold hillV at *
    have C1 := Lib.hid c1
    clear hans h0 hr hr2 hb0 c1
    go_enter Tryz.func44, Tryz.ntmps44
    go_wp2_with (go_at_call 45; refine C1.out.mono ?_; rintro e w1 ⟨rfl, hb1⟩)
    go_ret2
    exact ⟨rfl, HB.out.on hb1⟩

set_option maxRecDepth 100000 in
set_option maxHeartbeats 1000000 in
theorem Way_any (n : Int) (q : Option Addr) (cap : Nat) (cs : List Ch) (q2 : Option Addr) (c2 : Nat) (l : List Int) (g : Int) (w : World) (hr : RowV w q (flatT cs)) (hcap : cs.length ≤ cap) (hr2 : RowV w q2 (flatI l)) (hl : l.length ≤ 1000000) :
    Calls Tryz.prog 47 #[hillV n q cs.length cap, .slice q2 l.length c2, .int .i64 g] w (RetI w (wayOf n.toNat cs l g).1 (wayOf n.toNat cs l g).2) := by
  have hb0 : Below w.heap.size w (w.alloc (.cells #[.int .i64 n, .slice q cs.length cap] 28)) := (Below.refl _ _).alloc (Nat.le_refl _) _
  have c1 := Valid_any n q cap cs q2 c2 l _ (hr.below (Nat.le_refl _) hb0) hcap (hr2.below (Nat.le_refl _) hb0) hl
  have HB := Lib.hid hb0
  by_cases h0 : validOf n.toNat cs l = 0
  · obtain ⟨m, rfl, hchs, hpl, _⟩ := valid_plan h0
    obtain ⟨hin, hl6⟩ := plan_in hchs hpl
    have heach := plan_each hchs.ok hpl
    have hok2 : ∀ c ∈ chosenS cs l, ChOk m c := heach.1
    have hreach := (wet_ways hchs.n6 heach).1 hpl.2.2
    have hcl : (chosenS cs l).length ≤ 14 := by simp [chosenS]; omega
    have hans : wayOf ((m : Int).toNat) cs l g = if !isGal m g then ([], 2) else (wayF m (chosenS cs l) m g, 0) := by
      unfold wayOf
      rw [if_neg (fun h => h h0), Int.toNat_natCast]
    have hhg := fun W => hasGallery_any m g q cs.length cap W
    simp only [isGal_eq] at hhg
    rw [hans]
    obtain ⟨gg, hgg⟩ : ∃ gg, isGal m g = gg := ⟨_, rfl⟩
    rw [hgg]
    simp only [hgg] at hhg
    unfold hillV at *
    rw [h0] at c1
    have C1 := Lib.hid c1
    have HHG := Lib.hid hhg
    cases gg with
    | false =>
      clear hans h0 hr hr2 hb0 hchs c1 hhg hin hpl heach hok2 hreach hcl hgg
      go_enter Tryz.func47, Tryz.ntmps47
      go_wp2_with (first
        | (go_at_call 45; refine C1.out.mono ?_; rintro e w1 ⟨rfl, hb1⟩; obtain ⟨hc1, hf1⟩ := bcell hb1; have hac1 : Below w.heap.size w w1 := HB.out.on hb1; have hz0 : w.heap.size < w1.heap.size := (by have := hb1.size; simp at this; omega))
        | (go_at_call 95; refine (HHG.out w1).mono ?_; rintro e w2 ⟨rfl, hb2⟩))
      go_ret2
      exact ⟨none, 0, rfl, .inl rfl, fun _ => rfl, by simp, hac1.on hb2⟩
    | true =>
      have hg2 := (isGal_iff _ _).1 hgg
      obtain ⟨g, rfl⟩ : ∃ i : Nat, g = i := ⟨g.toNat, by omega⟩
      have hgm : g < m := by omega
      have hpo := fun W => placeOf_any m g q cs.length cap W
      have hch := fun W hb => channelsOf_any m q cap cs W hchs (hr.below (Nat.le_refl _) hb)
      have hco := fun W q3 c3 hb h3 => chosen_any m q3 c3 cs q2 c2 l W h3 (hr2.below (Nat.le_refl _) hb) hin (by omega) hchs.many
      have hwf := fun W q4 c4 h4 => wayFrom_any m g q4 c4 (chosenS cs l) W hchs.n6 hcl hgm heach hreach h4
      obtain ⟨T, hT⟩ : ∃ T, plV m g = .iface T (.int .i64 g) := ⟨_, rfl⟩
      have hpo2 : ∀ W, Calls Tryz.prog 97 #[.agg #[.int .i64 m, .slice q cs.length cap], .int .i64 g] W fun e w' => e = .returned (.iface T (.int .i64 g)) ∧ Below W.heap.size W w' := fun W => by rw [← hT]; exact hpo W
      rw [hT] at hwf
      unfold hillV at *
      show Calls _ _ _ _ (RetI w (wayF m (chosenS cs l) m g) 0)
      generalize wayF m (chosenS cs l) m g = wy at hwf ⊢
      generalize chosenS cs l = chs at hco hwf
      have HPO := Lib.hid hpo2
      have HCH := Lib.hid hch
      have HCO := Lib.hid hco
      have HWF := Lib.hid hwf
      clear hans h0 hr hr2 hb0 hchs c1 hhg hin hpl heach hok2 hreach hcl hgg hpo hpo2 hch hco hwf hT
      go_enter Tryz.func47, Tryz.ntmps47
      go_upto_region 6 with (first
        | (go_at_call 45; refine C1.out.mono ?_; rintro e w1 ⟨rfl, hb1⟩; obtain ⟨hc1, hf1⟩ := bcell hb1; have hac1 : Below w.heap.size w w1 := HB.out.on hb1; have hz0 : w.heap.size < w1.heap.size := (by have := hb1.size; simp at this; omega))
        | (go_at_call 95; refine (HHG.out w1).mono ?_; rintro e w2 ⟨rfl, hb2⟩; have hac2 : Below w.heap.size w w2 := hac1.on hb2))
      obtain ⟨d0, d1⟩ : w1.cell? ⟨w.heap.size, 0, none⟩ = some (.int .i64 m) ∧ w1.cell? ⟨w.heap.size, 1, none⟩ = some (.slice q cs.length cap) := ⟨by rw [hc1 _ _ (by simp)]; simp, by rw [hc1 _ _ (by simp)]; simp⟩
      have e0 := (hb2.cell (p := ⟨w.heap.size, 0, none⟩) hz0).trans d0
      have e1 := (hb2.cell (p := ⟨w.heap.size, 1, none⟩) hz0).trans d1
      have hz2 : w.heap.size < w2.heap.size := Nat.lt_of_lt_of_le hz0 hb2.size
      clear hc1 hf1 d0 d1
      go_region_held3 (fun W => W.cell? ⟨w.heap.size, 0, none⟩ = some (.int .i64 m) ∧ W.cell? ⟨w.heap.size, 1, none⟩ = some (.slice q cs.length cap)) (first | exact ⟨e0, e1⟩ | exact ⟨f0, f1⟩ | exact ⟨g0, g1⟩ | exact ⟨j0, j1⟩ | exact ⟨k0, k1⟩ | go_keep)
        (first
        | (go_at_call 97; refine (HPO.out _).mono ?_; rintro e w3 ⟨rfl, hb3'⟩; have hb3 : Below w2.heap.size w2 w3 := (((Below.refl _ _).drew).on hb3'); have f0 := (hb3.cell (p := ⟨w.heap.size, 0, none⟩) hz2).trans e0; have f1 := (hb3.cell (p := ⟨w.heap.size, 1, none⟩) hz2).trans e1; have hac3 : Below w.heap.size w w3 := hac2.on hb3; have hz3 : w.heap.size < w3.heap.size := Nat.lt_of_lt_of_le hz2 hb3.size)
        | (go_at_call 58; refine (HCH.out w3 hac3).mono ?_; rintro e w4 ⟨v4, rfl, hown4, hb4⟩; have g0 := (hb4.cell (p := ⟨w.heap.size, 0, none⟩) hz3).trans f0; have g1 := (hb4.cell (p := ⟨w.heap.size, 1, none⟩) hz3).trans f1; have hac4 : Below w.heap.size w w4 := hac3.on hb4; have hz4 : w.heap.size < w4.heap.size := Nat.lt_of_lt_of_le hz3 hb4.size; obtain ⟨q4, c4, rfl, hrow4, _, _⟩ := rowV_of_owns hown4 (by intro h; rw [List.length_eq_zero_iff] at h; rw [h]; rfl))
        | (go_at_call 94; refine (HCO.out w4 q4 c4 hac4 hrow4).mono ?_; rintro e w5 ⟨v5, rfl, hown5, hb5⟩; have j0 := (hb5.cell (p := ⟨w.heap.size, 0, none⟩) hz4).trans g0; have j1 := (hb5.cell (p := ⟨w.heap.size, 1, none⟩) hz4).trans g1; have hac5 : Below w.heap.size w w5 := hac4.on hb5; have hz5 : w.heap.size < w5.heap.size := Nat.lt_of_lt_of_le hz4 hb5.size; obtain ⟨q5, c5, rfl, hrow5, _, _⟩ := rowV_of_owns hown5 (by intro h; rw [List.length_eq_zero_iff] at h; rw [h]; rfl))
        | (go_at_call 96; refine (HWF.out w5 q5 c5 hrow5).mono ?_; rintro e w6 ⟨v6, rfl, hown6, hb6⟩; have k0 := (hb6.cell (p := ⟨w.heap.size, 0, none⟩) hz5).trans j0; have k1 := (hb6.cell (p := ⟨w.heap.size, 1, none⟩) hz5).trans j1; obtain ⟨q6, c6, rfl, hrow6, hq6, hqb6⟩ := rowV_of_owns hown6 (by intro h; rw [List.length_eq_zero_iff] at h; rw [h]; rfl))
        | fail)
      clear e0 e1 f0 f1 g0 g1 j0 j1 k0 k1
      go_wp2
      go_ret2
      exact ⟨q6, c6, rfl, hrow6, hq6, fun a ha => ⟨Nat.le_trans hac5.size (hqb6 a ha).1, (hqb6 a ha).2⟩, hac5.on hb6⟩
  · have hans : wayOf n.toNat cs l g = ([], validOf n.toNat cs l) := by rw [wayOf, if_pos h0]
    rw [hans]
    have hb : (validOf n.toNat cs l != 0) = true := by simpa using h0
    generalize validOf n.toNat cs l = err at c1 hb ⊢
    unfold hillV at *
    have C1 := Lib.hid c1
    clear hans h0 hr hr2 hb0 c1
    go_enter Tryz.func47, Tryz.ntmps47
    go_wp2_with (go_at_call 45; refine C1.out.mono ?_; rintro e w1 ⟨rfl, hb1⟩)
    go_ret2
    exact ⟨none, 0, rfl, .inl rfl, fun _ => rfl, by simp, HB.out.on hb1⟩
end Go.Proofs.YtlnpibboemphnaaGreat.drn

/- Package drain, the walks: Proves. -/
namespace Go.Proofs.YtlnpibboemphnaaGreat.drn
open Go.RowKit
set_option linter.unusedSimpArgs false
set_option linter.unusedVariables false

def overB (x : Int × Ch) : Bool := decide (x.2.2.2 < x.1)
theorem zip_at {xs : List Int} {cs : List Ch} (h : xs.length = cs.length) {k : Nat} (hk : k < cs.length) : (List.zip xs cs).getD k (0, 0, 0, 0) = (xs.getD k 0, cs.getD k (0, 0, 0)) := by
  rw [getD_eq _ k _ (by rw [List.length_zip]; omega), getD_eq xs k 0 (by omega), getD_eq cs k (0, 0, 0) hk]
  simp
theorem allNo_any {α : Type} {f : α → Bool} {l : List α} (h : AllNo f l l.length) : l.any f = false := by
  rw [← firstIdx_any, h.all]
  decide
theorem any_hit {α : Type} {f : α → Bool} {l : List α} {k : Nat} {d : α} (hk : k < l.length) (h : f (l.getD k d) = true) : l.any f = true := List.any_eq_true.2 ⟨_, getD_mem l k d hk, h⟩
def sumD (ds : List Du) : Int := ds.foldl (fun k d => k + d.2) 0
theorem sumD_bd : ∀ (ds : List Du) (k : Int), (∀ d ∈ ds, 1 ≤ d.2 ∧ d.2 ≤ 280) → k ≤ ds.foldl (fun k d => k + d.2) k ∧ ds.foldl (fun k d => k + d.2) k ≤ k + 280 * ds.length
  | [], k, _ => by simp
  | d :: r, k, h => by
    rw [List.foldl_cons, List.length_cons]
    have hd := h d (by simp)
    obtain ⟨a, b⟩ := sumD_bd r (k + d.2) (fun e he => h e (by simp [he]))
    constructor <;> omega
theorem sumD_take (ds : List Du) (j : Nat) (hj : j < ds.length) : sumD (ds.take (j + 1)) = sumD (ds.take j) + (ds.getD j ([], 0)).2 := by
  unfold sumD
  rw [foldl_take _ _ ds j ([], 0) hj]

set_option maxRecDepth 100000 in
set_option maxHeartbeats 2000000 in
theorem Proves_any (n : Int) (q : Option Addr) (cap : Nat) (cs : List Ch) (q1 : Option Addr) (k1 : Nat) (l : List Int) (q2 : Option Addr) (c2 : Nat) (vs : List Value) (ds : List Du) (w : World) (hr : RowV w q (flatT cs)) (hcap : cs.length ≤ cap) (hrl : RowV w q1 (flatI l)) (hll : l.length ≤ 1000000) (hd : DuesAt w q2 vs ds) (hl : ds.length ≤ 1000000) (hg : ∀ d ∈ ds, d.1.length ≤ 1000000) :
    Calls Tryz.prog 21 #[hillV n q cs.length cap, .slice q1 l.length k1, .slice q2 ds.length c2] w fun e w' => e = .returned (.int .i64 (provesOf n.toNat cs l ds)) ∧ Below w.heap.size w w' := by
  have hb0 : Below w.heap.size w (w.alloc (.cells #[.int .i64 n, .slice q cs.length cap] 28)) := (Below.refl _ _).alloc (Nat.le_refl _) _
  have c1 := Cost_any n q cap cs q1 k1 l _ (hr.below (Nat.le_refl _) hb0) hcap (hrl.below (Nat.le_refl _) hb0) hll
  have HB := Lib.hid hb0
  by_cases h0 : validOf n.toNat cs l = 0
  · obtain ⟨m, rfl, hchs, hpl, herr⟩ := valid_plan h0
    rw [Int.toNat_natCast] at h0
    have hcg := fun W hb => Charged_any m q cap cs q2 c2 vs ds W (hr.below (Nat.le_refl _) hb) hcap (hd.below (Nat.le_refl _) hb) hl hg
    have hco : costR m cs l = (costS cs l, 0) := by rw [costR, if_neg (fun h => h h0)]
    rw [Int.toNat_natCast] at c1 ⊢
    rw [hco] at c1
    by_cases h1 : duErr m ds = 0
    · have hans : provesOf m cs l ds = if (List.zip (chargeS cs ds) cs).any overB then 15 else if sumD ds ≠ costS cs l then 14 else 0 := by
        unfold provesOf
        rw [if_neg (fun h => h h0), if_neg (fun h => h h1)]
        rfl
      have hch : chargedOf m cs ds = (chargeS cs ds, 0) := by
        unfold chargedOf
        rw [if_neg (fun h => h herr), if_neg (fun h => h h1)]
      rw [Int.toNat_natCast] at hcg
      rw [hch] at hcg
      obtain ⟨h20, hds⟩ := duErr_ok h1
      have hcl : (chargeS cs ds).length = cs.length := by simp [chargeS]
      obtain ⟨ans, hA⟩ : ∃ ans, provesOf m cs l ds = ans := ⟨_, rfl⟩
      rw [hA] at hans ⊢
      generalize chargeS cs ds = cl at hans hcg hcl
      generalize costS cs l = ko at hans c1
      unfold hillV RetK RetI at *
      have C1 := Lib.hid c1
      have HCG := Lib.hid hcg
      have HANS := Lib.hid hans
      have HD := Lib.hid hd
      have HR := Lib.hid hr
      have HDS := Lib.hid hds
      have HCL := Lib.hid hcl
      have hcm := hchs.many
      clear hans h0 h1 hr hb0 hchs c1 hcg hd hds hcl hch hA hg hpl hco herr hrl hll
      go_enter Tryz.func21, Tryz.ntmps21
      go_wp2_with (first
        | (go_at_call 44; refine C1.out.mono ?_; rintro e w1 ⟨rfl, hb1⟩; obtain ⟨hc1, hf1⟩ := bcell hb1; have hac1 : Below w.heap.size w w1 := HB.out.on hb1; have hz0 : w.heap.size < w1.heap.size := (by have := hb1.size; simp at this; omega))
        | (go_at_call 51; refine (HCG.out w1 hac1).mono ?_; rintro e w2 ⟨q9, c9, rfl, hr9, hc9, hq9, hb2⟩; obtain ⟨hc2, hf2⟩ := bcell hb2; have hac2 : Below w.heap.size w w2 := hac1.on hb2))
      have hr2 := HR.out.below (Nat.le_refl _) hac2
      clear hc1 hf1 hb1 hc2 hf2 hq9
      go_loopw [36] (fun i wr => ∃ k : Nat, k ≤ cs.length ∧ i = .int .i64 k ∧ AllNo overB (List.zip cl cs) k ∧ Below w2.heap.size w2 wr) (fun i _ => cs.length - (intOf i).toNat)
      case atStart => exact ⟨0, Nat.zero_le _, rfl, AllNo.zero _ _, Below.refl _ _⟩
      case round =>
        obtain ⟨k, hk, rfl, hall, hbel⟩ := hrel
        by_cases hlt : k < cs.length
        · obtain ⟨b, off, rfl, hb, g1, g2, g3⟩ := rowT_at hr2 hlt (Nat.le_refl _) hbel
          obtain ⟨b9, off9, rfl, hb9, g9⟩ := rowI_at hr9 (show k < cl.length by rw [HCL.out]; exact hlt) (Nat.le_refl _) hbel
          have hzl : k < (List.zip cl cs).length := by rw [List.length_zip, HCL.out]; omega
          have hst := hall.step hzl (0, 0, 0, 0)
          have hit := fun h => any_hit (f := overB) (d := (0, 0, 0, 0)) hzl h
          rw [zip_at HCL.out hlt] at hst hit
          generalize cl.getD k 0 = x at g9 hst hit
          generalize cs.getD k (0, 0, 0) = c at g1 g2 g3 hst hit
          obtain ⟨y1, y2, y3⟩ := c
          dsimp only at *
          have hkl : (k : Int) < (cl.length : Int) := by rw [HCL.out]; omega
          have hzr := hbel.size
          have HST := Lib.hid hst
          have HIT := Lib.hid hit
          have hb9r : b9 < wr.heap.size := Nat.lt_of_lt_of_le hb9 hzr
          clear hst hit hall
          go_upto_region 10 with fail
          go_quiet (fail)
          have hbA : Below w2.heap.size w2 (wr.alloc (.cells #[.int .i64 y1, .int .i64 y2, .int .i64 y3] 49)) := hbel.alloc hbel.size _
          have HBA := Lib.hid hbA
          clear hbA
          by_cases hov : y3 < x
          · have h15 := HIT.out (by simp [overB, hov])
            have HA := Lib.hid (show ans = 15 by have h := HANS.out; rw [if_pos h15] at h; exact h)
            clear h15
            go_wp2
            go_ret
            exact ⟨ret_int HA.out.symm, hac2.on (by first | exact HBA.out | exact below_drewN HBA.out _ | exact HBA.out.drew)⟩
          · have hno := HST.out.1 (by simp [overB]; omega)
            have HNO := Lib.hid hno
            clear hno
            go_wp2
            go_roundw
            case rel => exact ⟨k + 1, hlt, by go_num, HNO.out, by first | exact HBA.out | exact below_drewN HBA.out _ | exact HBA.out.drew⟩
            case measure => simp [intOf]; omega
        · obtain rfl : k = cs.length := by omega
          have hfin : (List.zip cl cs).any overB = false := allNo_any (by rw [List.length_zip, HCL.out, Nat.min_self]; exact hall)
          have hans := HANS.out
          rw [hfin] at hans
          have HAN2 := Lib.hid hans
          have hd2 := HD.out.below (Nat.le_refl _) (hac2.on hbel)
          have HD2 := Lib.hid hd2
          clear hall hfin hans hd2
          obtain ⟨W3, rfl⟩ : ∃ W : World, W = wr := ⟨_, rfl⟩
          go_wp2
          go_loopw [12, 51] (fun s i wl => ∃ j : Nat, j ≤ ds.length ∧ i = .int .i64 j ∧ s = .int .i64 (sumD (ds.take j)) ∧ Below W3.heap.size W3 wl) (fun _ i _ => ds.length - (intOf i).toNat)
          case atStart => exact ⟨0, Nat.zero_le _, rfl, rfl, Below.refl _ _⟩
          case round =>
            obtain ⟨j, hj, rfl, rfl, hbl⟩ := hrel
            by_cases hjl : j < ds.length
            · obtain ⟨b, off, qg, cg, rfl, hb, g1, g2, g3⟩ := (HD2.out.below (Nat.le_refl _) hbl).at hjl
              have hst := sumD_take ds j hjl
              have hbd := sumD_bd (ds.take j) 0 (fun d hd => (HDS.out d (List.mem_of_mem_take hd)).2)
              have hl2 : (ds.take j).length ≤ 20 := by rw [List.length_take]; omega
              have hpd := (HDS.out _ (getD_mem ds j ([], 0) hjl)).2
              rw [show (ds.take j).foldl (fun k d => k + d.2) 0 = sumD (ds.take j) from rfl] at hbd
              generalize ds.getD j ([], 0) = d at g1 g2 g3 hst hpd
              obtain ⟨gr, py⟩ := d
              dsimp only at *
              generalize sumD (ds.take j) = sm at hst hbd ⊢
              have hw : IntKind.i64.wrap (sm + py) = sm + py := IntWalk.i64_in _ ⟨by omega, by omega⟩
              have HST := Lib.hid hst
              clear hst hbd hpd g3 hl2
              go_wp2
              go_roundw
              case rel => exact ⟨j + 1, hjl, by go_num, by rw [HST.out], hbl.alloc hbl.size _⟩
              case measure => simp [intOf]; omega
            · obtain rfl : j = ds.length := by omega
              rw [List.take_length]
              by_cases hs : sumD ds = ko
              · have hsb : (sumD ds != ko) = false := by simp [hs]
                have HA2 := Lib.hid (show ans = 0 by have h := HAN2.out; rw [if_neg (by decide), if_neg (fun h => h hs)] at h; exact h)
                generalize sumD ds = sm at hsb ⊢
                clear hs
                go_wp2
                go_ret
                exact ⟨ret_int HA2.out.symm, (hac2.on hbel).on hbl⟩
              · have hsb : (sumD ds != ko) = true := by simpa using hs
                have HA2 := Lib.hid (show ans = 14 by have h := HAN2.out; rw [if_neg (by decide), if_pos hs] at h; exact h)
                generalize sumD ds = sm at hsb ⊢
                clear hs
                go_wp2
                go_ret
                exact ⟨ret_int HA2.out.symm, (hac2.on hbel).on hbl⟩
    · have hans : provesOf m cs l ds = duErr m ds := by
        unfold provesOf
        rw [if_neg (fun h => h h0), if_pos h1]
      have hch : chargedOf m cs ds = ([], duErr m ds) := by
        unfold chargedOf
        rw [if_neg (fun h => h herr), if_pos h1]
      rw [Int.toNat_natCast] at hcg
      rw [hch] at hcg
      rw [hans]
      have hb : (duErr m ds != 0) = true := by simpa using h1
      generalize duErr m ds = err at hcg hb ⊢
      generalize costS cs l = ko at c1
      unfold hillV RetK RetI at *
      have C1 := Lib.hid c1
      have HCG := Lib.hid hcg
      clear hans h0 h1 hr hb0 hchs c1 hcg hd hch hg hpl hco herr hrl hll
      go_enter Tryz.func21, Tryz.ntmps21
      go_wp2_with (first
        | (go_at_call 44; refine C1.out.mono ?_; rintro e w1 ⟨rfl, hb1⟩; obtain ⟨hc1, hf1⟩ := bcell hb1; have hac1 : Below w.heap.size w w1 := HB.out.on hb1; have hz0 : w.heap.size < w1.heap.size := (by have := hb1.size; simp at this; omega))
        | (go_at_call 51; refine (HCG.out w1 hac1).mono ?_; rintro e w2 ⟨q9, c9, rfl, hr9, hc9, hq9, hb2⟩))
      go_ret
      exact ⟨rfl, hac1.on hb2⟩
  · have hans : provesOf n.toNat cs l ds = validOf n.toNat cs l := by
      unfold provesOf
      rw [if_pos h0]
    have hco : costR n.toNat cs l = (0, validOf n.toNat cs l) := by rw [costR, if_pos h0]
    rw [hans]
    rw [hco] at c1
    have hb : (validOf n.toNat cs l != 0) = true := by simpa using h0
    generalize validOf n.toNat cs l = err at c1 hb ⊢
    unfold hillV RetK at *
    have C1 := Lib.hid c1
    clear hans h0 hr hb0 c1 hd hg hco hrl
    go_enter Tryz.func21, Tryz.ntmps21
    go_wp2_with (go_at_call 44; refine C1.out.mono ?_; rintro e w1 ⟨rfl, hb1⟩)
    go_ret
    exact ⟨rfl, HB.out.on hb1⟩
end Go.Proofs.YtlnpibboemphnaaGreat.drn

/- Package drain, the walks: Narrow. -/
namespace Go.Proofs.YtlnpibboemphnaaGreat.drn
open Go.RowKit
set_option linter.unusedSimpArgs false
set_option linter.unusedVariables false

theorem Narrow1_any (n s B : Nat) (cs : List Ch) (w : World) (hc : Chs n cs) (hs : s < 2 ^ n) (hB : ChsAt w B n cs) :
    Calls Tryz.prog 73 #[.int .u64 s, .pointer (some ⟨B, 0, none⟩)] w fun e w' => e = .returned (.int .i64 (leavingS cs s).length) ∧ Below w.heap.size w w' := by
  obtain ⟨q, cap, h1, h2, h3⟩ := hB
  go_enter Tryz.func73, Tryz.ntmps73
  go_wp2_with (go_at_call 74; refine (leaving_any n s q cap cs w hc hs h3).mono ?_; rintro e w5 ⟨v5, rfl, hown5, hb5⟩; obtain ⟨q5, c5, rfl, hrow5, hq5, hqb5⟩ := rowV_of_owns hown5 (by intro h; rw [List.length_eq_zero_iff] at h; rw [h]; rfl))
  go_ret
  exact ⟨rfl, hb5⟩
/-- a function value in a block, which another closure has captured -/
def FunAt (w : World) (B C : Nat) : Prop := B < w.heap.size ∧ w.cell? ⟨B, 0, none⟩ = some (.func (.func 73) #[] #[.pointer (some ⟨C, 0, none⟩)])
theorem FunAt.below {w w' : World} {B C : Nat} (h : FunAt w B C) {N : Nat} (hN : w.heap.size ≤ N) (hb : Below N w w') : FunAt w' B C :=
  ⟨Nat.lt_of_lt_of_le h.1 hb.size, (hb.cell (p := ⟨B, 0, none⟩) (Nat.lt_of_lt_of_le h.1 hN)).trans h.2⟩
set_option maxRecDepth 100000 in
set_option maxHeartbeats 1000000 in
theorem Narrow2_any (n s t B C : Nat) (cs : List Ch) (w : World) (hc : Chs n cs) (hs : s < 2 ^ n) (ht : t < 2 ^ n) (hC : ChsAt w C n cs) (hB : FunAt w B C) :
    Calls Tryz.prog 77 #[.int .u64 s, .int .u64 t, .pointer (some ⟨B, 0, none⟩)] w fun e w' => (∃ c : Int, e = .returned (.int .i64 c) ∧ (c < 0 ↔ (leavingS cs s).length < (leavingS cs t).length)) ∧ Below w.heap.size w w' := by
  obtain ⟨z0, c0⟩ := hB
  have hn1 := fun W s hs hb => Narrow1_any n s C cs W hc hs (hC.below (Nat.le_refl _) hb)
  have HN := Lib.hid hn1
  clear hn1
  go_enter Tryz.func77, Tryz.ntmps77
  go_wp2
  go_region_held3 (fun W => W.cell? ⟨B, 0, none⟩ = some (.func (.func 73) #[] #[.pointer (some ⟨C, 0, none⟩)])) (first | exact c0 | exact d0 | exact e0 | go_keep)
    (first
    | (go_at_call 73; refine (HN.out _ s hs (Below.refl _ _).drew).mono ?_; rintro e w1 ⟨rfl, hb1'⟩; have hb1 : Below w.heap.size w w1 := (((Below.refl _ _).drew).on hb1'); have d0 := (hb1.cell (p := ⟨B, 0, none⟩) z0).trans c0)
    | (go_at_call 73; refine (HN.out _ t ht hb1).mono ?_; rintro e w2 ⟨rfl, hb2⟩; have hac2 : Below w.heap.size w w2 := hb1.on hb2; have e0 := (hac2.cell (p := ⟨B, 0, none⟩) z0).trans c0)
    | (go_at_call 72; refine (cmpI_any _ _ _).mono ?_; rintro e w3 ⟨⟨c, rfl, hc⟩, rfl⟩)
    | fail)
  go_wp2
  go_ret
  exact ⟨⟨c, rfl, by rw [hc]; omega⟩, hac2⟩
theorem ent_Narrow1 : Enters 73 := fun args w => by kernel_rfl
theorem ent_Narrow2 : Enters 77 := fun args w => by kernel_rfl
end Go.Proofs.YtlnpibboemphnaaGreat.drn

/- Package drain, the walks: Narrow. -/
namespace Go.Proofs.YtlnpibboemphnaaGreat.drn
open Go.RowKit
set_option linter.unusedSimpArgs false
set_option linter.unusedVariables false

/-- a new list of ints, a number, and an error -/
def RetN (w : World) (l : List Int) (k err : Int) (e : Ending) (w' : World) : Prop :=
  ∃ q c, e = .returned (.tuple #[.slice q l.length c, .int .i64 k, .int .i64 err]) ∧ RowV w' q (flatI l) ∧ (q = none → c = 0) ∧ (∀ a, q = some a → w.heap.size ≤ a.block ∧ a.block < w'.heap.size) ∧ Below w.heap.size w w'

set_option maxRecDepth 100000 in
set_option maxHeartbeats 2000000 in
theorem Narrow_any (n : Int) (q : Option Addr) (cap : Nat) (cs : List Ch) (w : World) (hr : RowV w q (flatT cs)) (hcap : cs.length ≤ cap) :
    Calls Tryz.prog 27 #[hillV n q cs.length cap] w (RetN w (narrowOf n.toNat cs).1 (narrowOf n.toNat cs).2.1 (narrowOf n.toNat cs).2.2) := by
  have hb0 : Below w.heap.size w (w.alloc (.cells #[.int .i64 n, .slice q cs.length cap] 28)) := (Below.refl _ _).alloc (Nat.le_refl _) _
  have c1 := Check_any n q cap cs _ (hr.below (Nat.le_refl _) hb0) hcap
  unfold hillV at c1 ⊢
  have C1 := Lib.hid c1
  have HB := Lib.hid hb0
  clear c1
  by_cases h0 : errD n cs = 0
  · obtain ⟨m, rfl, hchs⟩ := chs_of h0
    have hgl : (groupsS m 0).length ≤ 1000 := by
      rw [groupsS_len]
      have : 2 ^ m ≤ 64 := Nat.pow_le_pow_right (by decide) hchs.n6
      omega
    have hmem : ∀ s ∈ groupsS m 0, s < 2 ^ m := fun s hs => (mem_groups.1 hs).2
    obtain ⟨x, xs, hxs⟩ : ∃ x xs, groupsS m 0 = x :: xs := by
      obtain ⟨k, rfl⟩ : ∃ k, m = k + 1 := ⟨m - 1, by have := hchs.n1; omega⟩
      exact ⟨_, _, rfl⟩
    have hans : narrowOf ((m : Int).toNat) cs = (listS (minFrom (fun s => (leavingS cs s).length) x xs), ((leavingS cs (minFrom (fun s => (leavingS cs s).length) x xs)).length : Int), 0) := by
      unfold narrowOf
      rw [Int.toNat_natCast, if_neg (by rw [h0]; simp), hxs, minFrom_first]
    rw [hans]
    have hgo := fun W => groupsOf_any m q cs.length cap W hchs.n6
    rw [hxs] at hgl hmem
    simp only [hxs] at hgo
    have hmn : minFrom (fun s => (leavingS cs s).length) x xs < 2 ^ m := by
      rcases minFrom_mem (fun s => (leavingS cs s).length) xs x with h | h
      · rw [h]; exact hmem x (by simp)
      · exact hmem _ (by simp [h])
    obtain ⟨r, hrr⟩ : ∃ r, minFrom (fun s => (leavingS cs s).length) x xs = r := ⟨_, rfl⟩
    rw [hrr] at hmn ⊢
    have HRR := Lib.hid hrr
    have HR := Lib.hid hr
    have HCH := Lib.hid hchs
    have hn6 := hchs.n6
    have HMEM := Lib.hid hmem
    have HGO := Lib.hid hgo
    rw [h0] at C1
    clear hans h0 hr hb0 hchs hmem hxs hgo hrr
    go_enter Tryz.func27, Tryz.ntmps27
    go_wp2_with (first
      | (go_at_call 17; refine C1.out.mono ?_; rintro e w1 ⟨rfl, hb1⟩; obtain ⟨hc1, hf1⟩ := bcell hb1; have hac1 : Below w.heap.size w w1 := HB.out.on hb1; have hz0 : w.heap.size < w1.heap.size := (by have := hb1.size; simp at this; omega))
      | (go_at_call 58; refine (channelsOf_any m q cap cs _ HCH.out (HR.out.below (Nat.le_refl _) hac1)).mono ?_; rintro e wB ⟨vB, rfl, hownB, hbB⟩; obtain ⟨hcB, hfB⟩ := bcell hbB; have hacB : Below w.heap.size w wB := hac1.on hbB; have hzB : w.heap.size < wB.heap.size := Nat.lt_of_lt_of_le hz0 hbB.size; obtain ⟨qB, cB, rfl, hrowB, _, _⟩ := rowV_of_owns hownB (by intro h; rw [List.length_eq_zero_iff] at h; rw [h]; rfl); clear hownB)
      | (go_at_call 76; refine (HGO.out _).mono ?_; rintro e wG ⟨vG, rfl, hownG, hbG⟩))
    have bE : ∀ (W : World) (o : Obj), Below W.heap.size W (W.alloc o) := fun W o => (Below.refl _ _).alloc (Nat.le_refl _) _
    have hchsC : ChsAt (wB.alloc (.cells #[.slice qB cs.length cB] 93)) wB.heap.size m cs := ⟨qB, cB, by simp, by simp, hrowB.below (Nat.le_refl _) (bE _ _)⟩
    have hchsD := hchsC.below (Nat.le_refl _) (bE _ (.cells #[.func (.func 73) #[] #[.pointer (some ⟨wB.heap.size, 0, none⟩)]] 111))
    have hfun : FunAt ((wB.alloc (.cells #[.slice qB cs.length cB] 93)).alloc (.cells #[.func (.func 73) #[] #[.pointer (some ⟨wB.heap.size, 0, none⟩)]] 111)) (wB.heap.size + 1) wB.heap.size := ⟨by simp, by simp⟩
    have hbC : Below wB.heap.size wB ((wB.alloc (.cells #[.slice qB cs.length cB] 93)).alloc (.cells #[.func (.func 73) #[] #[.pointer (some ⟨wB.heap.size, 0, none⟩)]] 111)) := (bE _ _).on (bE _ _)
    have hacD := hacB.on hbC
    have hzD : w.heap.size < ((wB.alloc (.cells #[.slice qB cs.length cB] 93)).alloc (.cells #[.func (.func 73) #[] #[.pointer (some ⟨wB.heap.size, 0, none⟩)]] 111)).heap.size := Nat.lt_of_lt_of_le hzB hbC.size
    obtain ⟨W4, hW4⟩ : ∃ W4, (wB.alloc (.cells #[.slice qB cs.length cB] 93)).alloc (.cells #[.func (.func 73) #[] #[.pointer (some ⟨wB.heap.size, 0, none⟩)]] 111) = W4 := ⟨_, rfl⟩
    rw [hW4] at hchsD hfun hacD hownG hbG hzD
    clear hW4 hbC hchsC hcB hfB hc1 hf1 hb1 hbB hrowB
    have hacG := hacD.on hbG
    have hchsG := hchsD.below (Nat.le_refl _) hbG
    have hfunG := hfun.below (Nat.le_refl _) hbG
    obtain ⟨qG, cG, rfl, hrowG, _, _⟩ := rowV_of_owns hownG (by intro h; rw [List.length_eq_zero_iff] at h; rw [h]; rfl)
    have hmin := minS_any wG.heap.size 77 #[.pointer (some ⟨wB.heap.size + 1, 0, none⟩)] (fun s => (leavingS cs s).length) ent_Narrow2 qG cG x xs wG (Nat.le_refl _) (fun W s t hs ht hb hB => Narrow2_any m s t _ _ cs W HCH.out (HMEM.out s hs) (HMEM.out t ht) (hchsG.below (Nat.le_refl _) hb) (hfunG.below (Nat.le_refl _) hb)) hrowG hgl
    rw [HRR.out] at hmin
    have HMIN := Lib.hid hmin
    obtain ⟨L2, hL2⟩ : ∃ L2, (x :: xs).length = L2 := ⟨_, rfl⟩
    rw [hL2] at HMIN ⊢
    clear hmin hL2 hrowG hownG hacD hchsD hfun
    have hr64 := pow_64 hn6 hmn
    go_upto_region 7 with (go_at_call 75; refine HMIN.out.mono ?_; rintro e wE ⟨rfl, hbE⟩)
    have hacE := hacG.on hbE
    have hchsE := hchsG.below (Nat.le_refl _) hbE
    have hfunE := hfunG.below (Nat.le_refl _) hbE
    obtain ⟨zE, cE⟩ := hfunE
    clear hfunG hchsG hbE HMIN
    go_region_held3 (fun W => W.cell? ⟨wB.heap.size + 1, 0, none⟩ = some (.func (.func 73) #[] #[.pointer (some ⟨wB.heap.size, 0, none⟩)])) (first | exact cE | exact d0 | exact e0 | go_keep)
      (first
      | (go_at_call 63; refine (list_any r _ hr64).mono ?_; rintro e w5 ⟨v5, rfl, hown5, hb5'⟩; have hb5 : Below wE.heap.size wE w5 := ((Below.refl _ _).drew).on hb5'; have d0 := (hb5.cell (p := ⟨wB.heap.size + 1, 0, none⟩) zE).trans cE; obtain ⟨q5, c5, rfl, hrow5, hq5, hqb5⟩ := rowV_of_owns hown5 (by intro h; rw [List.length_eq_zero_iff] at h; rw [h]; rfl))
      | (go_at_call 73; refine (Narrow1_any m r _ cs w5 HCH.out hmn (hchsE.below (Nat.le_refl _) hb5)).mono ?_; rintro e w6 ⟨rfl, hb6⟩; have e0 := (hb6.cell (p := ⟨wB.heap.size + 1, 0, none⟩) (Nat.lt_of_lt_of_le zE hb5.size)).trans d0)
      | fail)
    go_wp2
    go_ret3
    refine ⟨q5, c5, rfl, hrow5.below (Nat.le_refl _) hb6, hq5, fun a ha => ⟨Nat.le_trans hacE.size ?_, Nat.lt_of_lt_of_le (hqb5 a ha).2 hb6.size⟩, (hacE.on hb5).on hb6⟩
    have := (hqb5 a ha).1
    simpa using this
  · have hans : narrowOf n.toNat cs = ([], 0, errD n cs) := by
      unfold narrowOf
      rw [errD_nat, if_pos h0]
    rw [hans]
    have hb : (errD n cs != 0) = true := by simpa using h0
    clear hans h0 hr hb0
    go_enter Tryz.func27, Tryz.ntmps27
    go_wp2_with (go_at_call 17; refine C1.out.mono ?_; rintro e w1 ⟨rfl, hb1⟩)
    go_ret3
    exact ⟨none, 0, rfl, .inl rfl, fun _ => rfl, by simp, HB.out.on hb1⟩
end Go.Proofs.YtlnpibboemphnaaGreat.drn

/- Helper of the law: same. -/
namespace Go.Proofs.YtlnpibboemphnaaGreat.drn
open Go.RowKit
set_option linter.unusedSimpArgs false
set_option linter.unusedVariables false
theorem take_succ_eq {α : Type} {xs ys : List α} {k : Nat} (hx : k < xs.length) (hy : k < ys.length) (d : α) (h : xs.take k = ys.take k) (he : xs.getD k d = ys.getD k d) : xs.take (k + 1) = ys.take (k + 1) := by
  rw [List.take_succ_eq_append_getElem hx, List.take_succ_eq_append_getElem hy, h]
  rw [getD_eq xs k d hx, getD_eq ys k d hy] at he
  rw [he]

set_option maxRecDepth 100000 in
set_option maxHeartbeats 400000 in
theorem same_any (q1 q2 : Option Addr) (c1 c2 : Nat) (xs ys : List Int) (w : World) (h1 : RowV w q1 (flatI xs)) (h2 : RowV w q2 (flatI ys)) (l1 : xs.length ≤ 1000000) (l2 : ys.length ≤ 1000000) :
    Calls Tryz.prog 20 #[.slice q1 xs.length c1, .slice q2 ys.length c2] w fun e w' => e = .returned (.bool (xs == ys)) ∧ Below w.heap.size w w' := by
  have H1 := Lib.hid h1
  have H2 := Lib.hid h2
  clear h1 h2
  by_cases hl : xs.length = ys.length
  · have hl' : ((xs.length : Int) != (ys.length : Int)) = false := by simp [hl]
    have hlen := hl
    generalize hn : ys.length = n at *
    have HL := Lib.hid hl
    have HN := Lib.hid hn
    rw [hl] at l1 hl' ⊢
    clear hl hn hlen
    go_enter Tryz.func20, Tryz.ntmps20
    go_wp2
    go_loopw [5] (fun i wr => ∃ k : Nat, k ≤ n ∧ i = .int .i64 k ∧ xs.take k = ys.take k ∧ Below w.heap.size w wr) (fun i _ => n - (intOf i).toNat)
    case atStart => exact ⟨0, Nat.zero_le _, rfl, rfl, Below.refl _ _⟩
    case round =>
      obtain ⟨k, hk, rfl, htk, hbel⟩ := hrel
      by_cases hlt : k < n
      · obtain ⟨b1, o1, rfl, hz1, g1⟩ := rowI_at H1.out (show k < xs.length by rw [HL.out]; exact hlt) (Nat.le_refl _) hbel
        obtain ⟨b2, o2, rfl, hz2, g2⟩ := rowI_at H2.out (show k < ys.length by rw [HN.out]; exact hlt) (Nat.le_refl _) hbel
        have hts := take_succ_eq (xs := xs) (ys := ys) (k := k) (by rw [HL.out]; exact hlt) (by rw [HN.out]; exact hlt) 0 htk
        have HTS := Lib.hid hts
        have hne : xs.getD k 0 ≠ ys.getD k 0 → xs ≠ ys := fun h e => h (by rw [e])
        have HNE := Lib.hid hne
        generalize xs.getD k 0 = x at g1 HTS HNE
        generalize ys.getD k 0 = y at g2 HTS HNE
        clear hts hne htk
        by_cases hxy : x = y
        · have hxy' : (x != y) = false := by simp [hxy]
          have HE := Lib.hid hxy
          clear hxy
          go_wp2
          go_quiet (fail)
          go_wp2
          go_roundw
          case rel => exact ⟨k + 1, hlt, by go_num, HTS.out HE.out, by first | exact below_drewN hbel _ | exact hbel.drew⟩
          case measure => simp [intOf]; omega
        · have hxy' : (x != y) = true := by simp [hxy]
          have HE := Lib.hid hxy
          clear hxy
          go_wp2
          go_quiet (fail)
          go_wp2
          go_ret
          exact ⟨ret_bool (beq_eq_false_iff_ne.2 (HNE.out HE.out)).symm, by first | exact below_drewN hbel _ | exact hbel.drew⟩
      · obtain rfl : k = n := by omega
        have he : xs = ys := by
          rw [List.take_of_length_le (by rw [HL.out]; exact Nat.le_refl _), List.take_of_length_le (by rw [HN.out]; exact Nat.le_refl _)] at htk
          exact htk
        have HE := Lib.hid he
        clear htk he
        go_wp2
        go_ret
        exact ⟨ret_bool (by rw [HE.out]; exact (beq_self_eq_true ys).symm), hbel⟩
  · have hl' : ((xs.length : Int) != (ys.length : Int)) = true := by simp; omega
    go_enter Tryz.func20, Tryz.ntmps20
    go_wp2
    go_ret
    refine ⟨ret_bool ?_, Below.refl _ _⟩
    symm
    rw [beq_eq_false_iff_ne]
    intro e
    exact hl (by rw [e])
end Go.Proofs.YtlnpibboemphnaaGreat.drn

/- A reckoner for closed runs: values, memory and their reading in the model's worlds. -/
namespace Go.Proofs.YtlnpibboemphnaaGreat.ev
open Go.RowKit
set_option linter.unusedSimpArgs false
set_option linter.unusedVariables false
set_option linter.unusedSectionVars false

/-! a tree of numbered places -/
inductive Tr (α : Type) where
  | nil
  | leaf (v : α)
  | node (l r : Tr α)
noncomputable def Tr.get {α : Type} (t : Tr α) : Nat → Option α :=
  Tr.rec (motive := fun _ => Nat → Option α) (fun _ => none) (fun v _ => some v) (fun _ _ gl gr n => Bool.rec (gr (Nat.div n 2)) (gl (Nat.div n 2)) (Nat.beq (Nat.mod n 2) 0)) t
def Tr.left {α : Type} : Tr α → Tr α
  | .node l _ => l
  | t => t
def Tr.right {α : Type} : Tr α → Tr α
  | .node _ r => r
  | t => t
noncomputable def Tr.set {α : Type} (v : α) (d : Nat) : Tr α → Nat → Tr α :=
  Nat.rec (motive := fun _ => Tr α → Nat → Tr α) (fun _ _ => .leaf v) (fun _ s t n =>
    Tr.casesOn (motive := fun _ => Tr α) t
      (Bool.rec (.node .nil (s .nil (Nat.div n 2))) (.node (s .nil (Nat.div n 2)) .nil) (Nat.beq (Nat.mod n 2) 0))
      (fun u => Bool.rec (.node (.leaf u) (s (.leaf u) (Nat.div n 2))) (.node (s (.leaf u) (Nat.div n 2)) (.leaf u)) (Nat.beq (Nat.mod n 2) 0))
      (fun l r => Bool.rec (.node l (s r (Nat.div n 2))) (.node (s l (Nat.div n 2)) r) (Nat.beq (Nat.mod n 2) 0))) d
theorem Tr.get_nil {α : Type} (n : Nat) : Tr.get (.nil : Tr α) n = none := rfl
theorem Tr.get_leaf {α : Type} (v : α) (n : Nat) : Tr.get (.leaf v) n = some v := rfl
theorem beq_no {n : Nat} (h : ¬ n = 0) : Nat.beq n 0 = false := by
  cases h2 : Nat.beq n 0 with
  | false => rfl
  | true => exact absurd (Nat.eq_of_beq_eq_true h2) h
theorem Tr.get_node {α : Type} (l r : Tr α) (n : Nat) : Tr.get (.node l r) n = if n % 2 = 0 then Tr.get l (n / 2) else Tr.get r (n / 2) := by
  show Bool.rec (motive := fun _ => Option α) (Tr.get r (n / 2)) (Tr.get l (n / 2)) (Nat.beq (n % 2) 0) = _
  by_cases h : n % 2 = 0
  · rw [if_pos h, h]; rfl
  · rw [if_neg h, beq_no h]
theorem Tr.set_succ {α : Type} (v : α) (d : Nat) (t : Tr α) (n : Nat) : Tr.set v (d + 1) t n = if n % 2 = 0 then .node (Tr.set v d (Tr.left t) (n / 2)) (Tr.right t) else .node (Tr.left t) (Tr.set v d (Tr.right t) (n / 2)) := by
  have e : Tr.set v (d + 1) t n = Bool.rec (motive := fun _ => Tr α) (Tr.node (Tr.left t) (Tr.set v d (Tr.right t) (n / 2))) (.node (Tr.set v d (Tr.left t) (n / 2)) (Tr.right t)) (Nat.beq (n % 2) 0) := by
    cases t <;> rfl
  rw [e]
  by_cases h : n % 2 = 0
  · rw [if_pos h, h]; rfl
  · rw [if_neg h, beq_no h]
theorem Tr.get_half {α : Type} (t : Tr α) (n : Nat) : Tr.get t n = if n % 2 = 0 then Tr.get (Tr.left t) (n / 2) else Tr.get (Tr.right t) (n / 2) := by
  cases t with
  | nil => simp [Tr.left, Tr.right, Tr.get_nil]
  | leaf u => simp [Tr.left, Tr.right, Tr.get_leaf]
  | node l r => exact Tr.get_node l r n
theorem Tr.get_set {α : Type} : ∀ (d : Nat) (t : Tr α) (n m : Nat) (v : α), n < 2 ^ d → m < 2 ^ d → Tr.get (Tr.set v d t n) m = if n = m then some v else Tr.get t m
  | 0, t, n, m, v, hn, hm => by
    have : n = m := by simp at hn hm; omega
    rw [if_pos this]; rfl
  | d + 1, t, n, m, v, hn, hm => by
    have hn2 : n / 2 < 2 ^ d := by rw [Nat.pow_succ] at hn; omega
    have hm2 : m / 2 < 2 ^ d := by rw [Nat.pow_succ] at hm; omega
    have hl := Tr.get_set d (Tr.left t) (n / 2) (m / 2) v hn2 hm2
    have hr := Tr.get_set d (Tr.right t) (n / 2) (m / 2) v hn2 hm2
    rw [Tr.set_succ, Tr.get_half t m]
    by_cases a : n % 2 = 0 <;> by_cases b : m % 2 = 0 <;> simp only [Tr.get_node, a, b, if_true, if_false, hl, hr]
    · by_cases h : n / 2 = m / 2
      · have : n = m := by omega
        simp [this]
      · have : n ≠ m := fun e => h (by rw [e])
        simp [h, this]
    · have : n ≠ m := fun e => by omega
      simp [this]
    · have : n ≠ m := fun e => by omega
      simp [this]
    · by_cases h : n / 2 = m / 2
      · have : n = m := by omega
        simp [this]
      · have : n ≠ m := fun e => h (by rw [e])
        simp [h, this]

/-! rows of eight, with ways to read and to set their places: a way is a closed term, reckoned once -/
inductive N8 (α : Type) where
  | mk (a b c d e f g h : α)
structure Gt (α β : Type) where
  get : α → β
structure S2 (α : Type) where
  set : Value → α → α
def pick8 {α : Type} (i : Nat) : N8 α → α
  | .mk a b c d e f g h => match i with
    | 0 => a
    | 1 => b
    | 2 => c
    | 3 => d
    | 4 => e
    | 5 => f
    | 6 => g
    | _ => h
noncomputable def sel {α β : Type} (i : Nat) (k : Gt α β) : Gt (N8 α) β :=
  match i with
  | 0 => ⟨fun s => N8.rec (fun a _ _ _ _ _ _ _ => k.get a) s⟩
  | 1 => ⟨fun s => N8.rec (fun _ a _ _ _ _ _ _ => k.get a) s⟩
  | 2 => ⟨fun s => N8.rec (fun _ _ a _ _ _ _ _ => k.get a) s⟩
  | 3 => ⟨fun s => N8.rec (fun _ _ _ a _ _ _ _ => k.get a) s⟩
  | 4 => ⟨fun s => N8.rec (fun _ _ _ _ a _ _ _ => k.get a) s⟩
  | 5 => ⟨fun s => N8.rec (fun _ _ _ _ _ a _ _ => k.get a) s⟩
  | 6 => ⟨fun s => N8.rec (fun _ _ _ _ _ _ a _ => k.get a) s⟩
  | _ => ⟨fun s => N8.rec (fun _ _ _ _ _ _ _ a => k.get a) s⟩
noncomputable def upd {α : Type} (i : Nat) (k : S2 α) : S2 (N8 α) :=
  match i with
  | 0 => ⟨fun v s => N8.rec (fun a b c d e f g h => N8.mk (k.set v a) b c d e f g h) s⟩
  | 1 => ⟨fun v s => N8.rec (fun a b c d e f g h => N8.mk a (k.set v b) c d e f g h) s⟩
  | 2 => ⟨fun v s => N8.rec (fun a b c d e f g h => N8.mk a b (k.set v c) d e f g h) s⟩
  | 3 => ⟨fun v s => N8.rec (fun a b c d e f g h => N8.mk a b c (k.set v d) e f g h) s⟩
  | 4 => ⟨fun v s => N8.rec (fun a b c d e f g h => N8.mk a b c d (k.set v e) f g h) s⟩
  | 5 => ⟨fun v s => N8.rec (fun a b c d e f g h => N8.mk a b c d e (k.set v f) g h) s⟩
  | 6 => ⟨fun v s => N8.rec (fun a b c d e f g h => N8.mk a b c d e f (k.set v g) h) s⟩
  | _ => ⟨fun v s => N8.rec (fun a b c d e f g h => N8.mk a b c d e f g (k.set v h)) s⟩
theorem lt8 {i : Nat} (h : i < 8) : i = 0 ∨ i = 1 ∨ i = 2 ∨ i = 3 ∨ i = 4 ∨ i = 5 ∨ i = 6 ∨ i = 7 := by omega
theorem sel_eq {α β : Type} {i : Nat} (h : i < 8) (k : Gt α β) (s : N8 α) : (sel i k).get s = k.get (pick8 i s) := by
  cases s
  rcases lt8 h with rfl | rfl | rfl | rfl | rfl | rfl | rfl | rfl <;> rfl
theorem pick_upd {α : Type} {i j : Nat} (hi : i < 8) (hj : j < 8) (k : S2 α) (v : Value) (s : N8 α) : pick8 i ((upd j k).set v s) = if i = j then k.set v (pick8 i s) else pick8 i s := by
  cases s
  rcases lt8 hi with rfl | rfl | rfl | rfl | rfl | rfl | rfl | rfl <;> rcases lt8 hj with rfl | rfl | rfl | rfl | rfl | rfl | rfl | rfl <;> rfl
def Lens {α : Type} (m : Nat) (A : Nat → Gt α Value) (S : Nat → S2 α) : Prop := ∀ i j v s, i < m → j < m → (A i).get ((S j).set v s) = if i = j then v else (A i).get s
noncomputable def accL {α : Type} (m : Nat) (A : Nat → Gt α Value) (t : Nat) : Gt (N8 α) Value := sel (Nat.div t m) (A (Nat.mod t m))
noncomputable def sacL {α : Type} (m : Nat) (S : Nat → S2 α) (t : Nat) : S2 (N8 α) := upd (Nat.div t m) (S (Nat.mod t m))
theorem lens_up {α : Type} {m : Nat} {A : Nat → Gt α Value} {S : Nat → S2 α} (h : Lens m A S) (hm : 0 < m) : Lens (m * 8) (accL m A) (sacL m S) := by
  intro i j v s hi hj
  have hi1 : i / m < 8 := Nat.div_lt_of_lt_mul hi
  have hj1 : j / m < 8 := Nat.div_lt_of_lt_mul hj
  have hi2 : i % m < m := Nat.mod_lt _ hm
  have hj2 : j % m < m := Nat.mod_lt _ hm
  show (sel (i / m) (A (i % m))).get ((upd (j / m) (S (j % m))).set v s) = if i = j then v else (sel (i / m) (A (i % m))).get s
  rw [sel_eq hi1, sel_eq hi1, pick_upd hi1 hj1]
  by_cases e : i / m = j / m
  · rw [if_pos e, h _ _ _ _ hi2 hj2]
    by_cases e2 : i % m = j % m
    · have : i = j := by rw [← Nat.div_add_mod i m, ← Nat.div_add_mod j m, e, e2]
      rw [if_pos e2, if_pos this]
    · rw [if_neg e2, if_neg (fun h => e2 (by rw [h]))]
  · rw [if_neg e, if_neg (fun h => e (by rw [h]))]
noncomputable def accS : Nat → Gt (N8 (N8 (N8 Value))) Value := accL 64 (accL 8 (accL 1 fun _ => ⟨fun v => v⟩))
noncomputable def sacS : Nat → S2 (N8 (N8 (N8 Value))) := sacL 64 (sacL 8 (sacL 1 fun _ => ⟨fun v _ => v⟩))
theorem lensS : Lens 512 accS sacS := by
  have h0 : Lens 1 (fun _ => (⟨fun v => v⟩ : Gt Value Value)) fun _ => ⟨fun v _ => v⟩ := fun i j v s hi hj => by rw [if_pos (by omega)]
  exact lens_up (lens_up (lens_up h0 (by omega)) (by omega)) (by omega)
def n8 {α : Type} (x : α) : N8 α := .mk x x x x x x x x
def zS (u : Value) : N8 (N8 (N8 Value)) := n8 (n8 (n8 u))
theorem pick_n8 {α : Type} {i : Nat} (h : i < 8) (x : α) : pick8 i (n8 x) = x := by
  rcases lt8 h with rfl | rfl | rfl | rfl | rfl | rfl | rfl | rfl <;> rfl
theorem accS_z {t : Nat} (h : t < 512) (u : Value) : (accS t).get (zS u) = u := by
  show (sel (t / 64) (sel (t % 64 / 8) (sel (t % 64 % 8 / 1) ⟨fun v => v⟩))).get (zS u) = u
  rw [sel_eq (by omega), zS, pick_n8 (by omega), sel_eq (by omega), pick_n8 (by omega), sel_eq (by omega), pick_n8 (by omega)]

/-! values: a place is a number of the reckoner's own; a capacity that only the world knows is 'opn' -/
def opn : Nat := 4611686018427387904
structure Loc where
  blk : Nat
  sh : Nat
  size : Nat
  esz : Nat
abbrev Mu := Nat → Option Loc
def scalar : Value → Bool
  | .bool _ | .int .. | .string _ | .nilFunc | .nilIface | .pointer none | .map none | .slice none 0 0 => true
  | _ => false
mutual
inductive VRel (μ : Mu) : Value → Value → Prop
  | sc (v : Value) (h : scalar v = true) : VRel μ v v
  | ptr (k o : Nat) (L : Loc) (h : μ k = some L) : VRel μ (.pointer (some ⟨k, o, none⟩)) (.pointer (some ⟨L.blk, o + L.sh, none⟩))
  | slc (k o n c : Nat) (L : Loc) (h : μ k = some L) (hc : c < opn) : VRel μ (.slice (some ⟨k, o, none⟩) n c) (.slice (some ⟨L.blk, o + L.sh, none⟩) n c)
  | slo (k o n c : Nat) (L : Loc) (h : μ k = some L) (hn : n ≤ c) (hs : o + L.sh + c * L.esz = L.size) : VRel μ (.slice (some ⟨k, o, none⟩) n opn) (.slice (some ⟨L.blk, o + L.sh, none⟩) n c)
  | sle (k o o' : Nat) (L : Loc) (h : μ k = some L) (hs : o + L.sh = L.size) : VRel μ (.slice (some ⟨k, o, none⟩) 0 opn) (.slice (some ⟨L.blk, o', none⟩) 0 0)
  | iface (t : TypeId) (v v' : Value) (h : VRel μ v v') : VRel μ (.iface t v) (.iface t v')
  | agg (l l' : List Value) (h : LRel μ l l') : VRel μ (.agg l.toArray) (.agg l'.toArray)
  | tuple (l l' : List Value) (h : LRel μ l l') : VRel μ (.tuple l.toArray) (.tuple l'.toArray)
  | fn (g : FuncId) (l l' c c' : List Value) (h : LRel μ l l') (hc : LRel μ c c') : VRel μ (.func (.func g) l.toArray c.toArray) (.func (.func g) l'.toArray c'.toArray)
inductive LRel (μ : Mu) : List Value → List Value → Prop
  | nil : LRel μ [] []
  | cons (v v' : Value) (l l' : List Value) (h : VRel μ v v') (hl : LRel μ l l') : LRel μ (v :: l) (v' :: l')
end
def Mu.le (μ μ' : Mu) : Prop := ∀ k L, μ k = some L → μ' k = some L
mutual
theorem VRel.mono {μ μ' : Mu} (hm : μ.le μ') : ∀ {v v' : Value}, VRel μ v v' → VRel μ' v v'
  | _, _, .sc v h => .sc v h
  | _, _, .ptr k o L h => .ptr k o L (hm _ _ h)
  | _, _, .slc k o n c L h hc => .slc k o n c L (hm _ _ h) hc
  | _, _, .slo k o n c L h hn hs => .slo k o n c L (hm _ _ h) hn hs
  | _, _, .sle k o o' L h hs => .sle k o o' L (hm _ _ h) hs
  | _, _, .iface t v v' h => .iface t v v' (h.mono hm)
  | _, _, .agg l l' h => .agg l l' (h.mono hm)
  | _, _, .tuple l l' h => .tuple l l' (h.mono hm)
  | _, _, .fn g l l' c c' h hc => .fn g l l' c c' (h.mono hm) (hc.mono hm)
theorem LRel.mono {μ μ' : Mu} (hm : μ.le μ') : ∀ {l l' : List Value}, LRel μ l l' → LRel μ' l l'
  | _, _, .nil => .nil
  | _, _, .cons v v' l l' h hl => .cons v v' l l' (h.mono hm) (hl.mono hm)
end
theorem LRel.length {μ : Mu} : ∀ {l l' : List Value}, LRel μ l l' → l.length = l'.length
  | _, _, .nil => rfl
  | _, _, .cons v v' l l' h hl => by simp [hl.length]
theorem LRel.append {μ : Mu} : ∀ {l l' m m' : List Value}, LRel μ l l' → LRel μ m m' → LRel μ (l ++ m) (l' ++ m')
  | _, _, _, _, .nil, h => h
  | _, _, _, _, .cons v v' l l' h hl, k => .cons _ _ _ _ h (hl.append k)
theorem LRel.get {μ : Mu} : ∀ {l l' : List Value}, LRel μ l l' → ∀ (i : Nat) (v : Value), l[i]? = some v → ∃ v', l'[i]? = some v' ∧ VRel μ v v'
  | _, _, .nil, i, v, h => by simp at h
  | _, _, .cons u u' l l' h hl, 0, v, e => ⟨u', rfl, by simp at e; rw [← e]; exact h⟩
  | _, _, .cons u u' l l' h hl, i + 1, v, e => by
    obtain ⟨v', h1, h2⟩ := hl.get i v (by simpa using e)
    exact ⟨v', by simpa using h1, h2⟩
theorem vrel_undef (μ : Mu) : VRel μ undef undef := .tuple [] [] .nil
theorem LRel.getD {μ : Mu} : ∀ {l l' : List Value}, LRel μ l l' → ∀ (i : Nat), VRel μ (l.getD i undef) (l'.getD i undef)
  | _, _, .nil, i => by simpa using vrel_undef μ
  | _, _, .cons u u' l l' h hl, 0 => by simpa using h
  | _, _, .cons u u' l l' h hl, i + 1 => by simpa using hl.getD i
theorem LRel.set {μ : Mu} {v v' : Value} (hv : VRel μ v v') : ∀ {l l' : List Value}, LRel μ l l' → ∀ (i : Nat), LRel μ (l.set i v) (l'.set i v')
  | _, _, .nil, i => .nil
  | _, _, .cons u u' l l' h hl, 0 => .cons _ _ _ _ hv hl
  | _, _, .cons u u' l l' h hl, i + 1 => .cons _ _ _ _ h (hl.set hv i)
theorem LRel.take {μ : Mu} : ∀ {l l' : List Value}, LRel μ l l' → ∀ (i : Nat), LRel μ (l.take i) (l'.take i)
  | _, _, .nil, i => by simpa using LRel.nil
  | _, _, .cons u u' l l' h hl, 0 => by simpa using LRel.nil
  | _, _, .cons u u' l l' h hl, i + 1 => by simpa using LRel.cons _ _ _ _ h (hl.take i)
theorem LRel.drop {μ : Mu} : ∀ {l l' : List Value}, LRel μ l l' → ∀ (i : Nat), LRel μ (l.drop i) (l'.drop i)
  | _, _, .nil, i => by simpa using LRel.nil
  | _, _, .cons u u' l l' h hl, 0 => by simpa using LRel.cons _ _ _ _ h hl
  | _, _, .cons u u' l l' h hl, i + 1 => by simpa using hl.drop i
theorem LRel.map {μ : Mu} {α : Type} {f f' : α → Value} : ∀ (l : List α), (∀ x ∈ l, VRel μ (f x) (f' x)) → LRel μ (l.map f) (l.map f')
  | [], _ => .nil
  | x :: l, h => .cons _ _ _ _ (h x (by simp)) (LRel.map l fun y hy => h y (by simp [hy]))
theorem lrel_get {μ : Mu} : ∀ {l l' : List Value}, l.length = l'.length → (∀ (i : Nat) (v v' : Value), l[i]? = some v → l'[i]? = some v' → VRel μ v v') → LRel μ l l'
  | [], [], _, _ => .nil
  | v :: l, v' :: l', h, k => .cons _ _ _ _ (k 0 v v' rfl rfl) (lrel_get (by simpa using h) fun i u u' a b => k (i + 1) u u' (by simpa using a) (by simpa using b))
  | [], _ :: _, h, _ => by simp at h
  | _ :: _, [], h, _ => by simp at h

/-! what holds no place -/
def flatL : List Value → Bool
  | [] => true
  | v :: l => scalar v && flatL l
def flat1 : Value → Bool
  | .agg cs => flatL cs.toList
  | .iface _ v => scalar v
  | v => scalar v
def flatL1 : List Value → Bool
  | [] => true
  | v :: l => flat1 v && flatL1 l
def flat : Value → Bool
  | .tuple cs => flatL1 cs.toList
  | .iface _ v => flat1 v
  | .func (.func _) a c => flatL1 a.toList && flatL1 c.toList
  | v => flat1 v
theorem scalar_eq {μ : Mu} {v v' : Value} (h : scalar v = true) (r : VRel μ v v') : v' = v := by
  cases r <;> first | rfl | (simp [scalar] at h)
theorem flatL_eq {μ : Mu} : ∀ {l l' : List Value}, LRel μ l l' → flatL l = true → l' = l
  | _, _, .nil, _ => rfl
  | _, _, .cons v v' l l' hv hl, h => by
    simp [flatL] at h
    rw [scalar_eq h.1 hv, flatL_eq hl h.2]
theorem flat1_eq {μ : Mu} {v v' : Value} (h : flat1 v = true) (r : VRel μ v v') : v' = v := by
  cases r with
  | agg l l' hl => simp [flat1] at h; rw [flatL_eq hl h]
  | iface t v v' hv => simp [flat1] at h; rw [scalar_eq h hv]
  | sc v hs => rfl
  | _ => simp [flat1, scalar] at h
theorem flatL1_eq {μ : Mu} : ∀ {l l' : List Value}, LRel μ l l' → flatL1 l = true → l' = l
  | _, _, .nil, _ => rfl
  | _, _, .cons v v' l l' hv hl, h => by
    simp [flatL1] at h
    rw [flat1_eq h.1 hv, flatL1_eq hl h.2]
theorem flat_eq {μ : Mu} {v v' : Value} (h : flat v = true) (r : VRel μ v v') : v' = v := by
  cases r with
  | tuple l l' hl => simp [flat] at h; rw [flatL1_eq hl h]
  | agg l l' hl => simp [flat, flat1] at h; rw [flatL_eq hl h]
  | iface t v v' hv => simp [flat] at h; rw [flat1_eq h hv]
  | fn g l l' c c' hl hc => simp [flat] at h; rw [flatL1_eq hl h.1, flatL1_eq hc h.2]
  | sc v hs => rfl
  | _ => simp [flat, flat1, scalar] at h
theorem flatL_rel (μ : Mu) : ∀ {l : List Value}, flatL l = true → LRel μ l l
  | [], _ => .nil
  | v :: l, h => by simp [flatL] at h; exact .cons _ _ _ _ (.sc _ h.1) (flatL_rel μ h.2)
theorem flat1_rel (μ : Mu) {v : Value} (h : flat1 v = true) : VRel μ v v := by
  cases v with
  | agg cs => have := VRel.agg _ _ (flatL_rel μ (l := cs.toList) (by simpa [flat1] using h)); simpa using this
  | iface t v => exact .iface _ _ _ (.sc _ (by simpa [flat1] using h))
  | _ => exact .sc _ (by simpa [flat1] using h)
theorem flatL1_rel (μ : Mu) : ∀ {l : List Value}, flatL1 l = true → LRel μ l l
  | [], _ => .nil
  | v :: l, h => by simp [flatL1] at h; exact .cons _ _ _ _ (flat1_rel μ h.1) (flatL1_rel μ h.2)
theorem flat_rel (μ : Mu) {v : Value} (h : flat v = true) : VRel μ v v := by
  cases v with
  | tuple cs => have := VRel.tuple _ _ (flatL1_rel μ (l := cs.toList) (by simpa [flat] using h)); simpa using this
  | iface t v => exact .iface _ _ _ (flat1_rel μ (by simpa [flat] using h))
  | func g a c =>
    cases g with
    | func g =>
      simp [flat] at h
      have := VRel.fn (μ := μ) g _ _ _ _ (flatL1_rel μ h.1) (flatL1_rel μ h.2)
      simpa using this
    | _ => simp [flat, flat1, scalar] at h
  | _ => exact flat1_rel μ (by simpa [flat] using h)
end Go.Proofs.YtlnpibboemphnaaGreat.ev

/- The reckoner's memory, and when a world bears it. -/
namespace Go.Proofs.YtlnpibboemphnaaGreat.ev
open Go.RowKit
set_option linter.unusedSimpArgs false
set_option linter.unusedVariables false
set_option linter.unusedSectionVars false

structure Blk where
  cells : List Value
  tip : Bool
  esz : Nat
  anc : List Nat
  alive : Bool
structure St where
  heap : Tr Blk
  size : Nat
  wr : Nat
noncomputable def St.getB (σ : St) (k : Nat) : Option Blk :=
  match Nat.ble k 65535 with
  | true => match Tr.get σ.heap k with
    | some B => match B.alive with
      | true => some B
      | false => none
    | none => none
  | false => none
theorem St.getB_eq (σ : St) (k : Nat) : σ.getB k = if k < 65536 then match Tr.get σ.heap k with
    | some B => if B.alive then some B else none
    | none => none
  else none := by
  unfold St.getB
  by_cases h : k < 65536
  · rw [if_pos h, show Nat.ble k 65535 = true from by simp; omega]
    cases Tr.get σ.heap k with
    | none => rfl
    | some B => cases hb : B.alive <;> simp [hb]
  · rw [if_neg h, show Nat.ble k 65535 = false from by rw [Bool.eq_false_iff]; simp; omega]
noncomputable def St.setB : St → Nat → Blk → St
  | ⟨heap, size, wr⟩, k, B => ⟨Tr.set B 16 heap k, size, wr⟩
theorem St.getB_lt {σ : St} {k : Nat} {B : Blk} (h : σ.getB k = some B) : k < 65536 := by
  rw [St.getB_eq] at h; split at h
  · assumption
  · cases h
theorem St.getB_alive {σ : St} {k : Nat} {B : Blk} (h : σ.getB k = some B) : B.alive = true := by
  rw [St.getB_eq] at h
  split at h
  · split at h
    · split at h
      · cases h; assumption
      · cases h
    · cases h
  · cases h
theorem St.getB_setB (σ : St) (k m : Nat) (B : Blk) (hk : k < 65536) : (σ.setB k B).getB m = if m = k then (if B.alive then some B else none) else σ.getB m := by
  rw [St.getB_eq, St.getB_eq]
  unfold St.setB
  by_cases hm : m < 65536
  · rw [if_pos hm, Tr.get_set 16 _ k m B (by simpa using hk) (by simpa using hm)]
    by_cases e : m = k
    · subst e; simp
    · have : k ≠ m := fun h => e h.symm
      simp [e, this, hm]
  · have : m ≠ k := fun e => hm (e ▸ hk)
    simp [hm, this]
noncomputable def killB (σ : St) (k : Nat) : St :=
  match σ.getB k with
  | some B => σ.setB k { B with alive := false }
  | none => σ
noncomputable def killL (σ : St) : List Nat → St
  | [] => σ
  | k :: l => killL (killB σ k) l
theorem getB_killB (σ : St) (k m : Nat) : (killB σ k).getB m = if m = k then none else σ.getB m := by
  unfold killB
  cases h : σ.getB k with
  | none =>
    by_cases e : m = k
    · subst e; simp [h]
    · simp [e]
  | some B => simp [St.getB_setB σ k m _ (St.getB_lt h)]
theorem getB_killL : ∀ (l : List Nat) (σ : St) (m : Nat), (killL σ l).getB m = if m ∈ l then none else σ.getB m
  | [], σ, m => by simp [killL]
  | k :: l, σ, m => by
    rw [killL, getB_killL l, getB_killB]
    by_cases a : m ∈ l
    · simp [a]
    · by_cases b : m = k <;> simp [a, b]
theorem killB_size (σ : St) (k : Nat) : (killB σ k).size = σ.size ∧ (killB σ k).wr = σ.wr := by
  unfold killB; split <;> exact ⟨rfl, rfl⟩
theorem killL_size : ∀ (l : List Nat) (σ : St), (killL σ l).size = σ.size ∧ (killL σ l).wr = σ.wr
  | [], σ => ⟨rfl, rfl⟩
  | k :: l, σ => by
    rw [killL]
    exact ⟨(killL_size l _).1.trans (killB_size σ k).1, (killL_size l _).2.trans (killB_size σ k).2⟩
/-- a block that is written: what shares its memory is read no more -/
noncomputable def St.write (σ : St) (k : Nat) (B : Blk) (cells : List Value) : St :=
  { (killL σ B.anc).setB k ⟨cells, true, B.esz, [], true⟩ with wr := (k :: B.anc).foldl min σ.wr }
theorem foldl_min_le : ∀ (l : List Nat) (a : Nat), l.foldl min a ≤ a ∧ ∀ x ∈ l, l.foldl min a ≤ x
  | [], a => ⟨Nat.le_refl _, by simp⟩
  | y :: l, a => by
    obtain ⟨h1, h2⟩ := foldl_min_le l (min a y)
    refine ⟨by simp only [List.foldl_cons]; omega, fun x hx => ?_⟩
    simp only [List.foldl_cons]
    rcases List.mem_cons.1 hx with rfl | hx
    · omega
    · exact h2 x hx
noncomputable def St.newS : St → Blk → St
  | ⟨heap, size, wr⟩, B => ⟨Tr.set B 16 heap size, Nat.succ size, wr⟩
theorem St.getB_newS (σ : St) (B : Blk) (m : Nat) (hs : σ.size < 65536) : (σ.newS B).getB m = if m = σ.size then (if B.alive then some B else none) else σ.getB m := by
  have := St.getB_setB σ σ.size m B hs
  simpa [St.getB_eq, St.setB, St.newS] using this
theorem St.getB_write (σ : St) (k m : Nat) (B : Blk) (cells : List Value) (hk : k < 65536) (hal : B.alive = true) :
    (σ.write k B cells).getB m = if m = k then some ⟨cells, true, B.esz, [], true⟩ else if m ∈ B.anc then none else σ.getB m := by
  have h1 : (σ.write k B cells).getB m = ((killL σ B.anc).setB k ⟨cells, true, B.esz, [], true⟩).getB m := rfl
  rw [h1, St.getB_setB _ k m _ hk, getB_killL]
  by_cases e : m = k <;> simp [e, hal]

/-- how a block of the reckoner lies in a world -/
def BRel (μ : Mu) (w : World) (B : Blk) (L : Loc) : Prop :=
  ∃ (c : Array Value) (e : TypeId), w.heap[L.blk]? = some (.cells c e (0, 0)) ∧ c.size = L.size ∧ L.esz = B.esz ∧ L.sh + B.cells.length ≤ c.size ∧ LRel μ B.cells ((c.toList.drop L.sh).take B.cells.length)
structure Rel (μ : Mu) (σ : St) (w : World) : Prop where
  wf : ∀ k B, σ.getB k = some B → k < σ.size
  blk : ∀ k B L, σ.getB k = some B → μ k = some L → BRel μ w B L
  apart : ∀ k k' B B' L L', σ.getB k = some B → σ.getB k' = some B' → k ≠ k' → μ k = some L → μ k' = some L' → L.blk = L'.blk →
    (k ∈ B'.anc ∧ B.tip = false ∧ L.sh + B.cells.length ≤ L'.sh + B'.cells.length) ∨ (k' ∈ B.anc ∧ B'.tip = false ∧ L'.sh + B'.cells.length ≤ L.sh + B.cells.length)
theorem BRel.lt {μ : Mu} {w : World} {B : Blk} {L : Loc} (h : BRel μ w B L) : L.blk < w.heap.size := by
  obtain ⟨c, e, h1, _⟩ := h
  rcases Nat.lt_or_ge L.blk w.heap.size with h | h
  · exact h
  · simp [Array.getElem?_eq_none h] at h1
theorem BRel.mono {μ μ' : Mu} {w w' : World} {B : Blk} {L : Loc} (h : BRel μ w B L) (hm : μ.le μ') (hw : w'.heap[L.blk]? = w.heap[L.blk]?) : BRel μ' w' B L := by
  obtain ⟨c, e, h1, h2, h3, h4, h5⟩ := h
  exact ⟨c, e, hw.trans h1, h2, h3, h4, h5.mono hm⟩
theorem BRel.range {μ : Mu} {w : World} {B : Blk} {L : Loc} (h : BRel μ w B L) (o n : Nat) (ho : o + n ≤ B.cells.length) :
    ∃ m : List Value, m.length = n ∧ LRel μ ((B.cells.drop o).take n) m ∧ w.rangeAt L.blk (o + L.sh) m := by
  obtain ⟨c, e, h1, h2, h3, h4, h5⟩ := h
  refine ⟨(c.toList.drop (o + L.sh)).take n, by simp; omega, ?_, fun j v hv => ?_⟩
  · have := (h5.drop o).take n
    rw [List.drop_take, List.drop_drop, List.take_take] at this
    rwa [show min n (B.cells.length - o) = n by omega, show L.sh + o = o + L.sh by omega] at this
  · rw [List.getElem?_take] at hv
    split at hv
    · rw [List.getElem?_drop] at hv
      simp [World.cell?, h1]
      simpa using hv
    · cases hv

/-- what a stretch of a run has done -/
structure Step (μ μ' : Mu) (σ σ' : St) (w w' : World) : Prop where
  ext : μ.le μ'
  dom : ∀ k L, μ' k = some L → μ k = some L ∨ (σ.size ≤ k ∧ k < σ'.size ∧ (w.heap.size ≤ L.blk ∨ ∃ k0 L0, μ k0 = some L0 ∧ L0.blk = L.blk ∧ σ'.wr ≤ k0 ∧ k0 < σ'.size))
  size : σ.size ≤ σ'.size
  wr : σ'.wr ≤ σ.wr
  hs : w.heap.size ≤ w'.heap.size
  os : w'.os = w.os
  tape : w'.tape = w.tape
  output : w'.output = w.output
  frame : ∀ b, b < w.heap.size → (∀ k L, μ k = some L → L.blk = b → k < σ'.wr ∨ σ'.size ≤ k) → w'.heap[b]? = w.heap[b]?
  canon : ∀ k, k < σ.size → k < σ'.wr → σ'.getB k = σ.getB k
theorem Mu.le.refl (μ : Mu) : μ.le μ := fun _ _ h => h
theorem Mu.le.trans {a b c : Mu} (h : a.le b) (k : b.le c) : a.le c := fun i L e => k i L (h i L e)
theorem Step.refl (μ : Mu) (σ : St) (w : World) : Step μ μ σ σ w w :=
  ⟨Mu.le.refl μ, fun k L h => .inl h, Nat.le_refl _, Nat.le_refl _, Nat.le_refl _, rfl, rfl, rfl, fun _ _ _ => rfl, fun _ _ _ => rfl⟩
theorem Step.trans {μ μ1 μ2 : Mu} {σ σ1 σ2 : St} {w w1 w2 : World} (h : Step μ μ1 σ σ1 w w1) (k : Step μ1 μ2 σ1 σ2 w1 w2) : Step μ μ2 σ σ2 w w2 := by
  refine ⟨h.ext.trans k.ext, fun i L hi => ?_, Nat.le_trans h.size k.size, Nat.le_trans k.wr h.wr, Nat.le_trans h.hs k.hs, k.os.trans h.os, k.tape.trans h.tape, k.output.trans h.output, fun b hb hf => ?_, fun i h1 h2 => ?_⟩
  · rcases k.dom i L hi with h1 | ⟨a, b, c⟩
    · rcases h.dom i L h1 with h2 | ⟨a, b, c⟩
      · exact .inl h2
      · refine .inr ⟨a, Nat.lt_of_lt_of_le b k.size, ?_⟩
        rcases c with c | ⟨k0, L0, x, y, z, z'⟩
        · exact .inl c
        · exact .inr ⟨k0, L0, x, y, Nat.le_trans k.wr z, Nat.lt_of_lt_of_le z' k.size⟩
    · refine .inr ⟨Nat.le_trans h.size a, b, ?_⟩
      rcases c with c | ⟨k0, L0, x, y, z, z'⟩
      · exact .inl (Nat.le_trans h.hs c)
      · rcases h.dom k0 L0 x with h2 | ⟨a', b', c'⟩
        · exact .inr ⟨k0, L0, h2, y, z, z'⟩
        · rcases c' with c' | ⟨k1, L1, x', y', z', z''⟩
          · exact .inl (y ▸ c')
          · exact .inr ⟨k1, L1, x', y'.trans y, Nat.le_trans k.wr z', Nat.lt_of_lt_of_le z'' k.size⟩
  · rw [k.frame b (Nat.lt_of_lt_of_le hb h.hs) (fun i L hi hL => ?_)]
    · refine h.frame b hb (fun i L hi hL => ?_)
      have := k.wr
      have := k.size
      rcases hf i L hi hL with a | a
      · exact .inl (by omega)
      · exact .inr (by omega)
    · rcases h.dom i L hi with h2 | ⟨a, b', c⟩
      · exact hf i L h2 hL
      · rcases c with c | ⟨k0, L0, x, y, z, z'⟩
        · omega
        · have := hf k0 L0 x (y.trans hL)
          have := k.wr
          have := k.size
          omega
  · have := k.wr
    have := h.size
    rw [k.canon i (by omega) h2, h.canon i h1 (by omega)]

/-- a new block -/
def Mu.add (μ : Mu) (n : Nat) (L : Loc) : Mu := fun k => if k = n then some L else μ k
theorem Mu.le_add (μ : Mu) (n : Nat) (L : Loc) (h : μ n = none) : μ.le (μ.add n L) := fun k M hk => by
  unfold Mu.add
  by_cases e : k = n
  · subst e; rw [h] at hk; cases hk
  · rw [if_neg e]; exact hk
theorem Mu.add_self (μ : Mu) (n : Nat) (L : Loc) : μ.add n L n = some L := by simp [Mu.add]
theorem Mu.add_cases {μ : Mu} {n k : Nat} {L M : Loc} (h : μ.add n L k = some M) : (k = n ∧ M = L) ∨ (k ≠ n ∧ μ k = some M) := by
  unfold Mu.add at h
  by_cases e : k = n
  · rw [if_pos e] at h; cases h; exact .inl ⟨e, rfl⟩
  · rw [if_neg e] at h; exact .inr ⟨e, h⟩
theorem Rel.alloc {μ : Mu} {σ : St} {w w1 : World} (h : Rel μ σ w) (cells : List Value) (c : Array Value) (e : TypeId) (esz : Nat) (hf : μ σ.size = none) (hlt : σ.size < 65536)
    (hl : cells.length ≤ c.size) (hc : LRel μ cells (c.toList.take cells.length)) (hw : w1.heap = w.heap.push (.cells c e (0, 0))) (ho : w1.os = w.os) (ht : w1.tape = w.tape) (hp : w1.output = w.output) :
    Rel (μ.add σ.size ⟨w.heap.size, 0, c.size, esz⟩) (σ.newS ⟨cells, true, esz, [], true⟩) w1 ∧ Step μ (μ.add σ.size ⟨w.heap.size, 0, c.size, esz⟩) σ (σ.newS ⟨cells, true, esz, [], true⟩) w w1 := by
  have hle := μ.le_add σ.size ⟨w.heap.size, 0, c.size, esz⟩ hf
  have hold : ∀ b, b < w.heap.size → w1.heap[b]? = w.heap[b]? := fun b hb => by rw [hw, Array.getElem?_push, if_neg (by omega)]
  refine ⟨⟨fun k B hk => ?_, fun k B L hk hL => ?_, fun k k' B B' L L' hk hk' hne hL hL' hb => ?_⟩, ?_⟩
  · rw [St.getB_newS σ _ k hlt] at hk
    by_cases e : k = σ.size
    · subst e; simp [St.newS]
    · rw [if_neg e] at hk
      have := h.wf k B hk
      simp [St.newS]; omega
  · rw [St.getB_newS σ _ k hlt] at hk
    rcases Mu.add_cases hL with ⟨rfl, rfl⟩ | ⟨hn, hL⟩
    · simp at hk
      subst hk
      refine ⟨c, e, by rw [hw]; simp, rfl, rfl, by simpa using hl, by simpa using hc.mono hle⟩
    · rw [if_neg hn] at hk
      have hB := h.blk k B L hk hL
      exact hB.mono hle (hold _ hB.lt)
  · rw [St.getB_newS σ _ _ hlt] at hk hk'
    rcases Mu.add_cases hL with ⟨rfl, rfl⟩ | ⟨hn, hL⟩
    · rcases Mu.add_cases hL' with ⟨rfl, rfl⟩ | ⟨hn', hL'⟩
      · exact absurd rfl hne
      · rw [if_neg hn'] at hk'
        have := (h.blk _ _ _ hk' hL').lt
        simp at hb; omega
    · rw [if_neg hn] at hk
      rcases Mu.add_cases hL' with ⟨rfl, rfl⟩ | ⟨hn', hL'⟩
      · have := (h.blk _ _ _ hk hL).lt
        simp at hb; omega
      · rw [if_neg hn'] at hk'
        exact h.apart k k' B B' L L' hk hk' hne hL hL' hb
  · refine ⟨hle, fun k L hL => ?_, by simp [St.newS], by simp [St.newS], by rw [hw]; simp, ho, ht, hp, fun b hb _ => hold b hb, fun k hk _ => by rw [St.getB_newS σ _ k hlt, if_neg (by omega)]⟩
    rcases Mu.add_cases hL with ⟨rfl, rfl⟩ | ⟨hn, hL⟩
    · exact .inr ⟨Nat.le_refl _, by simp [St.newS], .inl (Nat.le_refl _)⟩
    · exact .inl hL
/-- a block is written -/
theorem Rel.write {μ : Mu} {σ : St} {w : World} (h : Rel μ σ w) {k : Nat} {B : Blk} {L : Loc} (hB : σ.getB k = some B) (hL : μ k = some L) (ht : B.tip = true) (cells : List Value) (hlen : cells.length = B.cells.length)
    {c c' : Array Value} {e : TypeId} (hc : w.heap[L.blk]? = some (.cells c e (0, 0))) (hs : c'.size = c.size) (hr : LRel μ cells ((c'.toList.drop L.sh).take cells.length)) :
    Rel μ (σ.write k B cells) (w.setRow L.blk c') ∧ Step μ μ σ (σ.write k B cells) w (w.setRow L.blk c') := by
  have hklt := St.getB_lt hB
  have hal := St.getB_alive hB
  have hBr := h.blk k B L hB hL
  have hnew := setRow_heap w L.blk c c' e (0, 0) hc
  have hother : ∀ b, b ≠ L.blk → (w.setRow L.blk c').heap[b]? = w.heap[b]? := fun b hb => setRow_other w L.blk b c' hb
  have far : ∀ k' B' L', σ.getB k' = some B' → μ k' = some L' → k' ≠ k → k' ∉ B.anc → L'.blk ≠ L.blk := fun k' B' L' h1 h2 h3 h4 h5 => by
    rcases h.apart k' k B' B L' L h1 hB h3 h2 hL h5 with ⟨a, b, _⟩ | ⟨a, b, _⟩
    · exact h4 a
    · rw [ht] at b; cases b
  have hsize : (σ.write k B cells).size = σ.size := by simp [St.write, St.setB, (killL_size B.anc σ).1]
  have hwr := foldl_min_le (k :: B.anc) σ.wr
  refine ⟨⟨fun k' B' hk' => ?_, fun k' B' L' hk' hL' => ?_, fun k1 k2 B1 B2 L1 L2 hk1 hk2 hne hL1 hL2 hb => ?_⟩, ?_⟩
  · rw [St.getB_write σ k k' B cells hklt hal] at hk'
    rw [hsize]
    by_cases e1 : k' = k
    · subst e1; exact h.wf k' B hB
    · rw [if_neg e1] at hk'
      by_cases e2 : k' ∈ B.anc
      · rw [if_pos e2] at hk'; cases hk'
      · rw [if_neg e2] at hk'; exact h.wf k' B' hk'
  · rw [St.getB_write σ k k' B cells hklt hal] at hk'
    by_cases e1 : k' = k
    · subst e1
      rw [if_pos rfl] at hk'
      cases hk'
      rw [hL] at hL'
      cases hL'
      obtain ⟨c0, e0, g1, g2, g3, g4, g5⟩ := hBr
      rw [hc] at g1
      cases g1
      exact ⟨c', e, hnew, by rw [hs]; exact g2, g3, by rw [hs]; simpa [hlen] using g4, hr⟩
    · rw [if_neg e1] at hk'
      by_cases e2 : k' ∈ B.anc
      · rw [if_pos e2] at hk'; cases hk'
      · rw [if_neg e2] at hk'
        exact (h.blk k' B' L' hk' hL').mono (Mu.le.refl μ) (hother _ (far k' B' L' hk' hL' e1 e2))
  · rw [St.getB_write σ k _ B cells hklt hal] at hk1 hk2
    by_cases a1 : k1 = k
    · subst a1
      rw [hL] at hL1; cases hL1
      rw [if_neg (fun e => hne e.symm)] at hk2
      by_cases e2 : k2 ∈ B.anc
      · rw [if_pos e2] at hk2; cases hk2
      · rw [if_neg e2] at hk2
        exact absurd hb.symm (far k2 B2 L2 hk2 hL2 (fun e => hne e.symm) e2)
    · rw [if_neg a1] at hk1
      by_cases e1 : k1 ∈ B.anc
      · rw [if_pos e1] at hk1; cases hk1
      · rw [if_neg e1] at hk1
        by_cases a2 : k2 = k
        · subst a2
          rw [hL] at hL2; cases hL2
          exact absurd hb (far k1 B1 L1 hk1 hL1 a1 e1)
        · rw [if_neg a2] at hk2
          by_cases e2 : k2 ∈ B.anc
          · rw [if_pos e2] at hk2; cases hk2
          · rw [if_neg e2] at hk2
            exact h.apart k1 k2 B1 B2 L1 L2 hk1 hk2 hne hL1 hL2 hb
  · refine ⟨Mu.le.refl μ, fun _ _ h => .inl h, ?_, hwr.1, by simp, by simp, by simp, by simp, fun b hb hf => ?_, fun m hm hw => ?_⟩
    · rw [hsize]; exact Nat.le_refl _
    · refine hother b fun e => ?_
      subst e
      have h1 := hf k L hL rfl
      have h2 := hwr.2 k (by simp)
      have h3 := h.wf k B hB
      rw [hsize] at h1
      have h4 : (σ.write k B cells).wr = (k :: B.anc).foldl min σ.wr := rfl
      omega
    · rw [St.getB_write σ k m B cells hklt hal]
      have h4 : (σ.write k B cells).wr = (k :: B.anc).foldl min σ.wr := rfl
      have e1 : m ≠ k := fun e => by have := hwr.2 k (by simp); omega
      have e2 : m ∉ B.anc := fun e => by have := hwr.2 m (by simp [e]); omega
      simp [e1, e2]
/-- a row is continued: in its own memory or in new memory; who reads the row as it was may go on doing so -/
noncomputable def St.cont (σ : St) (k : Nat) (B : Blk) (cells : List Value) : St :=
  { (σ.setB k { B with tip := false }).newS ⟨cells, true, B.esz, k :: B.anc, true⟩ with wr := min σ.wr k }
theorem St.getB_cont (σ : St) (k m : Nat) (B : Blk) (cells : List Value) (hB : σ.getB k = some B) (hs : σ.size < 65536) :
    (σ.cont k B cells).getB m = if m = σ.size then some ⟨cells, true, B.esz, k :: B.anc, true⟩ else if m = k then some { B with tip := false } else σ.getB m := by
  have h1 : (σ.cont k B cells).getB m = ((σ.setB k { B with tip := false }).newS ⟨cells, true, B.esz, k :: B.anc, true⟩).getB m := rfl
  have hsz : (σ.setB k { B with tip := false }).size = σ.size := rfl
  rw [h1, St.getB_newS _ _ m (by rw [hsz]; exact hs), hsz, St.getB_setB σ k m _ (St.getB_lt hB)]
  simp [St.getB_alive hB]
theorem cont_apart {μ : Mu} {σ : St} {w : World} (h : Rel μ σ w) {k : Nat} {B : Blk} (hB : σ.getB k = some B) (ht : B.tip = true) {k1 k2 : Nat} {B1 B2 : Blk} {L1 L2 : Loc}
    (hk1 : (if k1 = k then some { B with tip := false } else σ.getB k1) = some B1) (hk2 : (if k2 = k then some { B with tip := false } else σ.getB k2) = some B2) (hne : k1 ≠ k2) (hL1 : μ k1 = some L1) (hL2 : μ k2 = some L2) (hb : L1.blk = L2.blk) :
    (k1 ∈ B2.anc ∧ B1.tip = false ∧ L1.sh + B1.cells.length ≤ L2.sh + B2.cells.length) ∨ (k2 ∈ B1.anc ∧ B2.tip = false ∧ L2.sh + B2.cells.length ≤ L1.sh + B1.cells.length) := by
  by_cases a1 : k1 = k
  · subst a1
    rw [if_pos rfl] at hk1; cases hk1
    rw [if_neg (fun e => hne e.symm)] at hk2
    rcases h.apart k1 k2 B B2 L1 L2 hB hk2 hne hL1 hL2 hb with ⟨_, b, _⟩ | ⟨a, b, c⟩
    · rw [ht] at b; cases b
    · exact .inr ⟨a, b, c⟩
  · rw [if_neg a1] at hk1
    by_cases a2 : k2 = k
    · subst a2
      rw [if_pos rfl] at hk2; cases hk2
      rcases h.apart k1 k2 B1 B L1 L2 hk1 hB hne hL1 hL2 hb with ⟨a, b, c⟩ | ⟨_, b, _⟩
      · exact .inl ⟨a, b, c⟩
      · rw [ht] at b; cases b
    · rw [if_neg a2] at hk2
      exact h.apart k1 k2 B1 B2 L1 L2 hk1 hk2 hne hL1 hL2 hb
theorem Rel.cont_in {μ : Mu} {σ : St} {w : World} (h : Rel μ σ w) {k : Nat} {B : Blk} {L : Loc} (hB : σ.getB k = some B) (hL : μ k = some L) (ht : B.tip = true) (hf : μ σ.size = none) (hlt : σ.size < 65536) (o : Nat) (ho : o ≤ B.cells.length)
    (cells : List Value) (hlen : B.cells.length ≤ o + cells.length) {c c' : Array Value} {e : TypeId} (hc : w.heap[L.blk]? = some (.cells c e (0, 0))) (hs : c'.size = c.size) (hin : L.sh + o + cells.length ≤ c.size)
    (hsame : ∀ i, i < L.sh + B.cells.length → c'[i]? = c[i]?) (hr : LRel μ cells ((c'.toList.drop (L.sh + o)).take cells.length)) :
    Rel (μ.add σ.size ⟨L.blk, L.sh + o, L.size, L.esz⟩) (σ.cont k B cells) (w.setRow L.blk c') ∧ Step μ (μ.add σ.size ⟨L.blk, L.sh + o, L.size, L.esz⟩) σ (σ.cont k B cells) w (w.setRow L.blk c') := by
  have hle := μ.le_add σ.size ⟨L.blk, L.sh + o, L.size, L.esz⟩ hf
  have hBr := h.blk k B L hB hL
  have hkn : k ≠ σ.size := fun e => by rw [e, hf] at hL; cases hL
  have hnew := setRow_heap w L.blk c c' e (0, 0) hc
  have hother : ∀ b, b ≠ L.blk → (w.setRow L.blk c').heap[b]? = w.heap[b]? := fun b hb => setRow_other w L.blk b c' hb
  have keep : ∀ (B' : Blk) (L' : Loc), BRel μ w B' L' → L'.blk = L.blk → L'.sh + B'.cells.length ≤ L.sh + B.cells.length → BRel (μ.add σ.size ⟨L.blk, L.sh + o, L.size, L.esz⟩) (w.setRow L.blk c') B' L' := by
    intro B' L' hB' hb hsh
    obtain ⟨c0, e0, g1, g2, g3, g4, g5⟩ := hB'
    rw [hb, hc] at g1
    cases g1
    refine ⟨c', e, by rw [hb]; exact hnew, by rw [hs]; exact g2, g3, by rw [hs]; exact g4, ?_⟩
    have : (c'.toList.drop L'.sh).take B'.cells.length = (c.toList.drop L'.sh).take B'.cells.length := by
      apply List.ext_getElem?
      intro i
      rw [List.getElem?_take, List.getElem?_take]
      split
      · rw [List.getElem?_drop, List.getElem?_drop, Array.getElem?_toList, Array.getElem?_toList]
        exact hsame _ (by omega)
      · rfl
    rw [this]
    exact g5.mono hle
  have g4 : L.sh + B.cells.length ≤ c.size ∧ c.size = L.size ∧ L.esz = B.esz := by
    obtain ⟨c0, e0, g1, g2, g3, g4, g5⟩ := hBr
    rw [hc] at g1
    cases g1
    exact ⟨g4, g2, g3⟩
  have hsize : (σ.cont k B cells).size = σ.size + 1 := by simp [St.cont, St.newS, St.setB]
  have hklt := h.wf k B hB
  have hcan : ∀ m, m < σ.size → m < (σ.cont k B cells).wr → (σ.cont k B cells).getB m = σ.getB m := fun m h1 h2 => by
    have : (σ.cont k B cells).wr = min σ.wr k := rfl
    rw [St.getB_cont σ k m B cells hB hlt, if_neg (by omega), if_neg (by omega)]
  refine ⟨⟨fun k' B' hk' => ?_, fun k' B' L' hk' hL' => ?_, fun k1 k2 B1 B2 L1 L2 hk1 hk2 hne hL1 hL2 hb => ?_⟩, ?_⟩
  · rw [St.getB_cont σ k k' B cells hB hlt] at hk'
    rw [hsize]
    by_cases e0 : k' = σ.size
    · omega
    · rw [if_neg e0] at hk'
      by_cases e1 : k' = k
      · omega
      · rw [if_neg e1] at hk'; have := h.wf k' B' hk'; omega
  · rw [St.getB_cont σ k k' B cells hB hlt] at hk'
    rcases Mu.add_cases hL' with ⟨rfl, rfl⟩ | ⟨hn, hL'⟩
    · rw [if_pos rfl] at hk'
      cases hk'
      exact ⟨c', e, hnew, by rw [hs]; exact g4.2.1, g4.2.2, by rw [hs]; exact hin, hr.mono hle⟩
    · rw [if_neg hn] at hk'
      by_cases e1 : k' = k
      · subst e1
        rw [if_pos rfl] at hk'
        cases hk'
        rw [hL] at hL'
        cases hL'
        exact keep { B with tip := false } L (by obtain ⟨c0, e0, g⟩ := hBr; exact ⟨c0, e0, g⟩) rfl (Nat.le_refl _)
      · rw [if_neg e1] at hk'
        by_cases e2 : L'.blk = L.blk
        · rcases h.apart k' k B' B L' L hk' hB e1 hL' hL e2 with ⟨_, _, a⟩ | ⟨_, b, _⟩
          · exact keep B' L' (h.blk k' B' L' hk' hL') e2 a
          · rw [ht] at b; cases b
        · exact (h.blk k' B' L' hk' hL').mono hle (hother _ e2)
  · rw [St.getB_cont σ k _ B cells hB hlt] at hk1 hk2
    have main : ∀ k2 B2 L2, (if k2 = k then some { B with tip := false } else σ.getB k2) = some B2 → μ k2 = some L2 → L2.blk = L.blk → k2 ∈ k :: B.anc ∧ B2.tip = false ∧ L2.sh + B2.cells.length ≤ L.sh + o + cells.length := by
      intro k2 B2 L2 h1 h3 h4
      by_cases e1 : k2 = k
      · subst e1
        rw [if_pos rfl] at h1; cases h1
        rw [hL] at h3; cases h3
        exact ⟨by simp, rfl, by simp; omega⟩
      · rw [if_neg e1] at h1
        rcases h.apart k2 k B2 B L2 L h1 hB e1 h3 hL h4 with ⟨a, b, c⟩ | ⟨_, b, _⟩
        · exact ⟨by simp [a], b, by omega⟩
        · rw [ht] at b; cases b
    rcases Mu.add_cases hL1 with ⟨rfl, rfl⟩ | ⟨n1, hL1⟩
    · rw [if_pos rfl] at hk1; cases hk1
      rcases Mu.add_cases hL2 with ⟨rfl, rfl⟩ | ⟨n2, hL2⟩
      · exact absurd rfl hne
      · rw [if_neg n2] at hk2
        exact .inr (main k2 B2 L2 hk2 hL2 hb.symm)
    · rw [if_neg n1] at hk1
      rcases Mu.add_cases hL2 with ⟨rfl, rfl⟩ | ⟨n2, hL2⟩
      · rw [if_pos rfl] at hk2; cases hk2
        exact .inl (main k1 B1 L1 hk1 hL1 hb)
      · rw [if_neg n2] at hk2
        exact cont_apart h hB ht hk1 hk2 hne hL1 hL2 hb
  · refine ⟨hle, fun k' L' hL' => ?_, ?_, ?_, by simp, by simp, by simp, by simp, fun b hb hf' => ?_, hcan⟩
    · rcases Mu.add_cases hL' with ⟨rfl, rfl⟩ | ⟨hn, hL'⟩
      · exact .inr ⟨Nat.le_refl _, by simp [St.cont, St.newS, St.setB], .inr ⟨k, L, hL, rfl, by simp only [St.cont]; omega, by rw [hsize]; omega⟩⟩
      · exact .inl hL'
    · simp [St.cont, St.newS, St.setB]
    · simp only [St.cont]; omega
    · refine hother b fun e => ?_
      subst e
      have h1 := hf' k L hL rfl
      rw [hsize] at h1
      have : (σ.cont k B cells).wr = min σ.wr k := rfl
      omega
theorem Rel.cont_new {μ : Mu} {σ : St} {w w1 : World} (h : Rel μ σ w) {k : Nat} {B : Blk} {L : Loc} (hB : σ.getB k = some B) (hL : μ k = some L) (ht : B.tip = true) (hf : μ σ.size = none) (hlt : σ.size < 65536)
    (cells : List Value) (c : Array Value) (e : TypeId) (hl : cells.length ≤ c.size) (hc : LRel μ cells (c.toList.take cells.length)) (hw : w1.heap = w.heap.push (.cells c e (0, 0))) (hos : w1.os = w.os) (htp : w1.tape = w.tape) (hp : w1.output = w.output) :
    Rel (μ.add σ.size ⟨w.heap.size, 0, c.size, B.esz⟩) (σ.cont k B cells) w1 ∧ Step μ (μ.add σ.size ⟨w.heap.size, 0, c.size, B.esz⟩) σ (σ.cont k B cells) w w1 := by
  have hle := μ.le_add σ.size ⟨w.heap.size, 0, c.size, B.esz⟩ hf
  have hBr := h.blk k B L hB hL
  have hold : ∀ b, b < w.heap.size → w1.heap[b]? = w.heap[b]? := fun b hb => by rw [hw, Array.getElem?_push, if_neg (by omega)]
  have old : ∀ k2 B2 L2, (if k2 = k then some { B with tip := false } else σ.getB k2) = some B2 → μ k2 = some L2 → BRel μ w B2 L2 := by
    intro k2 B2 L2 h1 h2
    by_cases e1 : k2 = k
    · subst e1
      rw [if_pos rfl] at h1; cases h1
      rw [hL] at h2; cases h2
      obtain ⟨c0, e0, g⟩ := hBr; exact ⟨c0, e0, g⟩
    · rw [if_neg e1] at h1
      exact h.blk k2 B2 L2 h1 h2
  have hsize : (σ.cont k B cells).size = σ.size + 1 := by simp [St.cont, St.newS, St.setB]
  have hklt := h.wf k B hB
  have hcan : ∀ m, m < σ.size → m < (σ.cont k B cells).wr → (σ.cont k B cells).getB m = σ.getB m := fun m h1 h2 => by
    have : (σ.cont k B cells).wr = min σ.wr k := rfl
    rw [St.getB_cont σ k m B cells hB hlt, if_neg (by omega), if_neg (by omega)]
  refine ⟨⟨fun k' B' hk' => ?_, fun k' B' L' hk' hL' => ?_, fun k1 k2 B1 B2 L1 L2 hk1 hk2 hne hL1 hL2 hb => ?_⟩, ?_⟩
  · rw [St.getB_cont σ k k' B cells hB hlt] at hk'
    rw [hsize]
    by_cases e0 : k' = σ.size
    · omega
    · rw [if_neg e0] at hk'
      by_cases e1 : k' = k
      · omega
      · rw [if_neg e1] at hk'; have := h.wf k' B' hk'; omega
  · rw [St.getB_cont σ k k' B cells hB hlt] at hk'
    rcases Mu.add_cases hL' with ⟨rfl, rfl⟩ | ⟨hn, hL'⟩
    · rw [if_pos rfl] at hk'
      cases hk'
      exact ⟨c, e, by rw [hw]; simp, rfl, rfl, by simpa using hl, by simpa using hc.mono hle⟩
    · rw [if_neg hn] at hk'
      have := old k' B' L' hk' hL'
      exact this.mono hle (hold _ this.lt)
  · rw [St.getB_cont σ k _ B cells hB hlt] at hk1 hk2
    rcases Mu.add_cases hL1 with ⟨rfl, rfl⟩ | ⟨n1, hL1⟩
    · rcases Mu.add_cases hL2 with ⟨rfl, rfl⟩ | ⟨n2, hL2⟩
      · exact absurd rfl hne
      · rw [if_neg n2] at hk2
        have := (old _ _ _ hk2 hL2).lt
        simp at hb; omega
    · rw [if_neg n1] at hk1
      rcases Mu.add_cases hL2 with ⟨rfl, rfl⟩ | ⟨n2, hL2⟩
      · have := (old _ _ _ hk1 hL1).lt
        simp at hb; omega
      · rw [if_neg n2] at hk2
        exact cont_apart h hB ht hk1 hk2 hne hL1 hL2 hb
  · refine ⟨hle, fun k' L' hL' => ?_, ?_, ?_, by rw [hw]; simp, hos, htp, hp, fun b hb hf' => hold b hb, hcan⟩
    · rcases Mu.add_cases hL' with ⟨rfl, rfl⟩ | ⟨hn, hL'⟩
      · exact .inr ⟨Nat.le_refl _, by simp [St.cont, St.newS, St.setB], .inl (Nat.le_refl _)⟩
      · exact .inl hL'
    · simp [St.cont, St.newS, St.setB]
    · simp only [St.cont]; omega
end Go.Proofs.YtlnpibboemphnaaGreat.ev

