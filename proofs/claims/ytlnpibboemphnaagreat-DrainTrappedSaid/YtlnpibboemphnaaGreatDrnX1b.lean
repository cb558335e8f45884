/- Package drain, the walks: Leaves. -/
import Derived.Test.YtlnpibboemphnaaGreatQa2
namespace Go.Proofs.YtlnpibboemphnaaGreat.drn
open Go.RowKit
set_option linter.unusedSimpArgs false
set_option linter.unusedVariables false
set_option maxRecDepth 100000 in
set_option maxHeartbeats 1000000 in
theorem Leaves_any (n : Int) (q : Option Addr) (cap : Nat) (cs : List Ch) (q2 : Option Addr) (cap2 : Nat) (l : List Int) (w : World) (hr : RowV w q (flatT cs)) (hcap : cs.length ≤ cap) (hr2 : RowV w q2 (flatI l)) (hl : l.length ≤ 1000000) :
    Calls Tryz.prog 38 #[hillV n q cs.length cap, .slice q2 l.length cap2] w (RetI w (leavesOf n.toNat cs l).1 (leavesOf n.toNat cs l).2) := by
  have hb0 : Below w.heap.size w (w.alloc (.cells #[.int .i64 n, .slice q cs.length cap] 28)) := (Below.refl _ _).alloc (Nat.le_refl _) _
  have c1 := Check_any n q cap cs _ (hr.below (Nat.le_refl _) hb0) hcap
  unfold hillV at c1 ⊢
  have C1 := Lib.hid c1
  have HB := Lib.hid hb0
  clear c1
  by_cases h0 : errD n cs = 0
  · obtain ⟨m, rfl, hchs⟩ := chs_of h0
    by_cases h1 : grErr m l = 0
    · have hans : leavesOf ((m : Int).toNat) cs l = (leavingS cs (setS l), 0) := by
        unfold leavesOf
        rw [Int.toNat_natCast, if_neg (by rw [h0]; simp), if_neg (by rw [h1]; simp)]
      rw [hans]
      obtain ⟨hbd, hsrt⟩ := setS_bd h1
      have hs := setS_lt hchs.n6 hbd
      have hl6 : l.length ≤ 6 := Nat.le_trans (sorted_le hbd hsrt) hchs.n6
      have hg6 : ∀ x ∈ l, 0 ≤ x ∧ x < 6 := fun x hx => ⟨(hbd x hx).1, by have := (hbd x hx).2; have := hchs.n6; omega⟩
      have HR2 := Lib.hid hr2
      have HR := Lib.hid hr
      have HCH := Lib.hid hchs
      have HG6 := Lib.hid hg6
      rw [h0] at C1
      have cg := fun W hb => checkGroup_any m q cs.length cap q2 cap2 l W (hr2.below (Nat.le_refl _) hb) hl
      simp only [h1] at cg
      have CG := Lib.hid cg
      clear hans h1 h0 hr hr2 hb0 hbd hsrt hchs hg6 cg
      go_enter Tryz.func38, Tryz.ntmps38
      go_wp2_with (first
        | (go_at_call 17; refine C1.out.mono ?_; rintro e w1 ⟨rfl, hb1⟩; obtain ⟨hc1, hf1⟩ := bcell hb1; have hac1 : Below w.heap.size w w1 := HB.out.on hb1; have hz0 : w.heap.size < w1.heap.size := (by have := hb1.size; simp at this; omega))
        | (go_at_call 87; refine (CG.out w1 hac1).mono ?_; rintro e w2 ⟨rfl, hb2⟩; obtain ⟨hc2, hf2⟩ := bcell hb2; have hac2 : Below w.heap.size w w2 := hac1.on hb2)
        | (go_at_call 58; refine (channelsOf_any m q cap cs w2 HCH.out (HR.out.below (Nat.le_refl _) hac2)).mono ?_; rintro e w3 ⟨v3, rfl, hown3, hb3⟩; have hac3 : Below w.heap.size w w3 := hac2.on hb3; obtain ⟨q3, c3, rfl, hrow3, _, _⟩ := rowV_of_owns hown3 (by intro h; rw [List.length_eq_zero_iff] at h; rw [h]; rfl))
        | (go_at_call 88; refine (setOf_any q2 cap2 l w3 (HR2.out.below (Nat.le_refl _) hac3) hl6 HG6.out).mono ?_; rintro e w4 ⟨rfl, rfl⟩)
        | (go_at_call 74; refine (leaving_any m (setS l) q3 c3 cs w3 HCH.out hs hrow3).mono ?_; rintro e w5 ⟨v5, rfl, hown5, hb5⟩; obtain ⟨q5, c5, rfl, hrow5, hq5, hqb5⟩ := rowV_of_owns hown5 (by intro h; rw [List.length_eq_zero_iff] at h; rw [h]; rfl)))
      go_ret2
      exact ⟨q5, c5, rfl, hrow5, hq5, fun a ha => ⟨Nat.le_trans hac3.size (hqb5 a ha).1, (hqb5 a ha).2⟩, hac3.on hb5⟩
    · have hans : leavesOf ((m : Int).toNat) cs l = ([], grErr m l) := by
        unfold leavesOf
        rw [Int.toNat_natCast, if_neg (by rw [h0]; simp), if_pos h1]
      rw [hans]
      have hb : (grErr m l != 0) = true := by simpa using h1
      have HR2 := Lib.hid hr2
      rw [h0] at C1
      clear hans h1 h0 hr hr2 hb0
      go_enter Tryz.func38, Tryz.ntmps38
      go_wp2_with (first
        | (go_at_call 17; refine C1.out.mono ?_; rintro e w1 ⟨rfl, hb1⟩; obtain ⟨hc1, hf1⟩ := bcell hb1; have hac : Below w.heap.size w w1 := HB.out.on hb1; have hz0 : w.heap.size < w1.heap.size := (by have := hb1.size; simp at this; omega))
        | (go_at_call 87; refine (checkGroup_any m q cs.length cap q2 cap2 l w1 (HR2.out.below (Nat.le_refl _) hac) hl).mono ?_; rintro e w2 ⟨rfl, hb2⟩))
      go_ret2
      exact ⟨none, 0, rfl, .inl rfl, fun _ => rfl, by simp, hac.on hb2⟩
  · have hans : leavesOf n.toNat cs l = ([], errD n cs) := by
      unfold leavesOf
      rw [errD_nat, if_pos h0]
    rw [hans]
    have hb : (errD n cs != 0) = true := by simpa using h0
    clear hans h0 hr hr2 hb0
    go_enter Tryz.func38, Tryz.ntmps38
    go_wp2_with (go_at_call 17; refine C1.out.mono ?_; rintro e w1 ⟨rfl, hb1⟩)
    go_ret2
    exact ⟨none, 0, rfl, .inl rfl, fun _ => rfl, by simp, HB.out.on hb1⟩
end Go.Proofs.YtlnpibboemphnaaGreat.drn
