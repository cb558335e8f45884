/- Hull (package seam). -/
import Derived.Test.YtcalipoknbbaaaaCorn
namespace Go.Proofs.Ytcalipoknbbaaaa
open Go.RowKit

/-- the corners of points, as Hull tells them -/
def IsHull (ps h : List Pl) : Prop := ∃ f r l, cornTo ps ps.length = f :: r ∧ l.Perm r ∧ TurnSorted f l ∧ h = f :: l
/-- what Hull returns -/
def HullPost (w : World) (ps : List Pl) (e : Ending) (w' : World) : Prop :=
  ∃ h err, ((errP ps ≠ 0 ∧ h = [] ∧ err = errP ps) ∨ (errP ps = 0 ∧ err = 0 ∧ IsHull ps h)) ∧ PlacesErr w (h, err) e w'

theorem putP_of_owns {w : World} {base : Nat} {e : TypeId} {v : Value} {ps : List Pl} (h : w.ownsRow base e 2 v ps.length (flatP ps)) (hn : ps ≠ []) :
    ∃ g cap, v = .slice (some ⟨g, 0, none⟩) ps.length cap ∧ base ≤ g ∧ g < w.heap.size ∧ PutP w g 0 ps ∧ ps.length ≤ cap ∧ cap ≤ maxLen := by
  have hlt := h.lt
  have hc := fun g hg => h.cells (g := g) hg
  obtain ⟨_, ⟨rfl, hn'⟩ | ⟨g, cap, cur, rfl, hb, hrow, hcap1, hcap2, _⟩⟩ := h
  · exact absurd (List.eq_nil_of_length_eq_zero hn') hn
  · refine ⟨g, cap, rfl, hb, (hlt g rfl).2, fun i hi => ?_, hcap1, hcap2⟩
    obtain ⟨g1, g2⟩ := flatP_get ps i hi
    refine ⟨?_, ?_, frozen_of_row w g _ cur e hrow, frozen_of_row w g _ cur e hrow⟩
    · rw [Nat.zero_add, ← addr_add g (i * 2)]; exact hc g rfl _ _ g1
    · rw [Nat.zero_add, ← addr_add g (i * 2 + 1)]; exact hc g rfl _ _ g2

set_option maxRecDepth 100000 in
set_option maxHeartbeats 1000000 in
theorem Hull_any (q : Option Addr) (cap : Nat) (ps : List Pl) (w : World) (hr : RowP w q ps) :
    Calls Try.prog 49 #[.slice q ps.length cap] w (HullPost w ps) := by
  have c1 := Points_any q cap ps w hr
  have C1 := Lib.hid c1
  have HR := Lib.hid hr
  clear c1 hr
  by_cases h0 : errP ps = 0
  · have hb : (errP ps != 0) = false := by simp [h0]
    obtain ⟨o1, o2, o3, o4⟩ := errP_ok h0
    obtain ⟨f, r, hfr, hf, hrr, hrl⟩ := corners_cons h0
    have H0 := Lib.hid h0
    have HFR := Lib.hid hfr
    clear h0 hfr
    go_enter Try.func49, Try.ntmps49
    go_wp2_with (go_at_call 55; refine C1.out.mono ?_; rintro e w1 ⟨rfl, hb1⟩)
    have HR1 := Lib.hid (HR.out.below (Nat.le_refl _) hb1)
    have HB1 := Lib.hid hb1
    clear C1 HR
    go_loopw [5, 20] (fun v i wr => ∃ k : Nat, k ≤ ps.length ∧ i = .int .i64 k ∧ wr.ownsRow w1.heap.size 26 2 v (cornTo ps k).length (flatP (cornTo ps k)) ∧ Below w1.heap.size w1 wr) (fun _ i _ => ps.length - (intOf i).toNat)
    case atStart => exact ⟨0, Nat.zero_le _, rfl, by rw [cornTo_zero]; exact World.ownsRow_nil _ _ _ _, Below.refl _ _⟩
    case round =>
      obtain ⟨k, hk, rfl, hown, hbel⟩ := hrel
      have HO := Lib.hid hown
      clear hown
      by_cases hlt : k < ps.length
      · obtain ⟨b, off, rfl, hbz, g1, g2⟩ := HR1.out.at hlt (Nat.le_refl _) hbel
        have hst := cornTo_succ ps k
        have hle := cornTo_le ps k
        have hok : okP (ps.getD k (0, 0)) := o4 _ (getD_mem ps k (0, 0) hlt)
        have hcb : cornB ps k = sepB (sel false [(k : Int)] ps) [ps.getD k (0, 0)] := rfl
        rw [hcb] at hst
        generalize ps.getD k (0, 0) = p at g1 g2 hst hok hcb
        have hw1 := hbel.size
        have hba := below_two wr (.cells #[.int .i64 p.1, .int .i64 p.2] 26) (.cells #[.int .i64 k] 3)
        have c2 := splitP_any (some ⟨b, off, none⟩) (some ⟨wr.heap.size + 1, 0, none⟩) cap 1 ps [(k : Int)] ((wr.alloc (.cells #[.int .i64 p.1, .int .i64 p.2] 26)).alloc (.cells #[.int .i64 k] 3)) ((HR1.out.below (Nat.le_refl _) hbel).below (Nat.le_refl _) hba) (.inr ⟨wr.heap.size + 1, 0, rfl, by simp, by intro i hi; have h0 : i = 0 := (by simpa using hi); subst h0; simp⟩) (by omega) (by simp)
        have c3 := fun (W : World) q2 d2 (h : RowP W q2 (sel false [(k : Int)] ps)) => separate_any q2 (some ⟨W.heap.size, 0, none⟩) d2 1 (sel false [(k : Int)] ps) [p] (W.alloc (.cells #[.int .i64 p.1, .int .i64 p.2] 26)) (fun x hx => o4 x (sel_mem _ _ _ x hx)) (by simpa using hok) (h.below (Nat.le_refl _) ((Below.refl _ _).alloc (Nat.le_refl _) _)) (.inr ⟨W.heap.size, 0, rfl, by simp, by intro i hi; have h0 : i = 0 := (by simpa using hi); subst h0; simp⟩) (by have := sel_length false [(k : Int)] ps; omega) (by simp)
        have C2 := Lib.hid c2
        have C3 := Lib.hid c3
        have HS := Lib.hid hst
        have HBA := Lib.hid hba
        clear c2 c3 hst hcb hba
        go_wp2_with (first
          | (go_at_call 114; refine C2.out.mono ?_; rintro e w2 ⟨q1, d1, q2, d2, rfl, _, r2, hb2⟩; have hz2 : wr.heap.size + 1 < w2.heap.size := (by have := hb2.size; simp at this; omega); have p1 : w2.cell? ⟨wr.heap.size, 0, none⟩ = some (.int .i64 p.1) := ((bcell hb2).1 _ _ (by simp <;> omega)).trans (by simp <;> omega); have p2 : w2.cell? ⟨wr.heap.size, 1, none⟩ = some (.int .i64 p.2) := ((bcell hb2).1 _ _ (by simp <;> omega)).trans (by simp <;> omega))
          | (go_at_call 115; refine (C3.out w2 q2 d2 r2).mono ?_; rintro e w3 ⟨rfl, hb3⟩; have ha3 : Below w2.heap.size w2 w3 := al0 ((Below.refl _ _).alloc (Nat.le_refl _) _) hb3 (by simp <;> omega); have hz3 : w2.heap.size < w3.heap.size := (by have := hb3.size; simp at this; omega); have hz4 : wr.heap.size < w3.heap.size := (by omega); have p3 := ((bcell ha3).1 wr.heap.size 0 (by omega)).trans p1; have p4 := ((bcell ha3).1 wr.heap.size 1 (by omega)).trans p2; have hb5 : Below wr.heap.size wr w3 := (al0 HBA.out hb2 (by simp <;> omega)).trans (ha3.mono (by omega)); have HO3 := Lib.hid (owns_below HO.out (Nat.le_refl _) hb5))
          | (at_builtin; refine app_place _ rfl (.tmp 40) (.tmp 42) rfl w1.heap.size _ _ p rfl ((HO3.out.alloc _).alloc _) (w3.heap.size + 1) 1 rfl (by simp) (by simp) (by omega) (by simp; omega) ?_; intro v' w4 hown4 hgrow hblk))
        · have hy : sepB (sel false [(k : Int)] ps) [p] = true := by assumption
          have e1 := HS.out
          rw [if_pos hy] at e1
          have hb6 := grown_below ((HO3.out.alloc (.cells #[.int .i64 (sepG (sel false [(k : Int)] ps) [p]).1, .int .i64 (sepG (sel false [(k : Int)] ps) [p]).2.1, .int .i64 (sepG (sel false [(k : Int)] ps) [p]).2.2] 28)).alloc (.cells #[.int .i64 p.1, .int .i64 p.2] 26)) (by simp; omega) hgrow
          have hbn := (((hbel.trans (hb5.mono hw1)).alloc (by omega) (.cells #[.int .i64 (sepG (sel false [(k : Int)] ps) [p]).1, .int .i64 (sepG (sel false [(k : Int)] ps) [p]).2.1, .int .i64 (sepG (sel false [(k : Int)] ps) [p]).2.2] 28)).alloc (by simp; omega) (.cells #[.int .i64 p.1, .int .i64 p.2] 26)).trans hb6
          go_roundw
          case rel => exact ⟨k + 1, hlt, by go_num, by rw [e1]; exact hown4, hbn⟩
          case measure => simp [intOf]; omega
        · have hy : sepB (sel false [(k : Int)] ps) [p] = false := by assumption
          have e1 := HS.out
          rw [if_neg (by simp [hy]), List.append_nil] at e1
          go_roundw
          case rel => exact ⟨k + 1, hlt, by go_num, by rw [e1]; exact HO3.out.alloc _, (hbel.trans (hb5.mono hw1)).alloc (by omega) _⟩
          case measure => simp [intOf]; omega
      · obtain rfl : k = ps.length := by omega
        have ho := HO.out
        rw [HFR.out] at ho
        obtain ⟨g, cp, rfl, hg1, hg2, hput, hcp1, hcp2⟩ := putP_of_owns ho (by simp)
        clear HO ho
        obtain ⟨a1, a2, a3, a4⟩ := hput 0 (by simp)
        simp only [List.getD_cons_zero, Nat.zero_mul, Nat.add_zero] at a1 a2
        have hput2 : PutP wr g 2 r := by
          intro i hi
          have h := hput (i + 1) (by simpa using hi)
          rw [List.getD_cons_succ, show 0 + (i + 1) * 2 = 2 + i * 2 by omega] at h
          exact h
        have HPU := Lib.hid hput2
        rw [List.length_cons] at hcp1 ⊢
        clear hput hput2 a3 a4
        have HRR := Lib.hid hrr
        have HL := Lib.hid hrl
        obtain ⟨n, hn⟩ : ∃ n, r.length = n := ⟨_, rfl⟩
        rw [hn] at hcp1 hrl ⊢
        have HN := Lib.hid hn
        clear hrr hn
        obtain ⟨N, hN⟩ : ∃ N, N = n + 1 := ⟨_, rfl⟩
        rw [← hN] at hcp1 ⊢
        have HNN := Lib.hid hN
        have hr0 : (0 : Int) < (N : Int) := by omega
        have hr1 : (1 : Int) ≤ (N : Int) := by omega
        have hr2 : (N : Int) ≤ (cp : Int) := by omega
        have HCP := Lib.hid hcp2
        have hgw : g ≠ wr.heap.size := by omega
        have c85 : ∀ cap, Calls Try.prog 85 #[.slice (if cp = 1 then some ⟨g, 0, none⟩ else some ⟨g, 2, none⟩) r.length cap, .func (.func 116) #[] #[.pointer (some ⟨wr.heap.size, 0, none⟩)]] (wr.alloc (.cells #[.int .i64 f.1, .int .i64 f.2] 26)) fun e w' =>
            e = .returned (.tuple #[]) ∧ ∃ l, l.Perm r ∧ TurnSorted f l ∧ PutP w' g 2 l ∧ (∀ o, o < 2 → w'.cell? ⟨g, o, none⟩ = (wr.alloc (.cells #[.int .i64 f.1, .int .i64 f.2] 26)).cell? ⟨g, o, none⟩) ∧ Below g (wr.alloc (.cells #[.int .i64 f.1, .int .i64 f.2] 26)) w' := by
          intro cap
          by_cases hc1 : cp = 1
          · have hr0 : r = [] := List.eq_nil_of_length_eq_zero (by have := HN.out; omega)
            rw [if_pos hc1]
            refine (sortF_any f hf wr.heap.size g 0 cap r HRR.out (wr.alloc (.cells #[.int .i64 f.1, .int .i64 f.2] 26)) (by simp) (by simp) (by simp) hgw.symm (by simp; omega) HL.out (by rw [hr0]; intro i hi; simp at hi)).mono ?_
            rintro e w4 ⟨rfl, l, h1, h2, h3, h4, h5⟩
            have hl0 : l = [] := by rw [hr0] at h1; exact List.Perm.eq_nil h1
            exact ⟨rfl, l, h1, h2, by rw [hl0]; intro i hi; simp at hi, fun o _ => h4 o (.inr (by rw [hr0]; simp)), h5⟩
          · rw [if_neg hc1]
            refine (sortF_any f hf wr.heap.size g 2 cap r HRR.out (wr.alloc (.cells #[.int .i64 f.1, .int .i64 f.2] 26)) (by simp) (by simp) (by simp) hgw.symm (by simp; omega) HL.out (by
              intro i hi
              obtain ⟨x1, x2, x3, x4⟩ := HPU.out i hi
              exact ⟨(World.cell?_alloc_old _ _ _ hgw).trans x1, (World.cell?_alloc_old _ _ _ hgw).trans x2, (World.frozen?_alloc_old _ _ _ hgw).trans x3, (World.frozen?_alloc_old _ _ _ hgw).trans x4⟩)).mono ?_
            rintro e w4 ⟨rfl, l, h1, h2, h3, h4, h5⟩
            exact ⟨rfl, l, h1, h2, h3, fun o ho => h4 o (.inl ho), h5⟩
        rw [HN.out] at c85
        have hNn : (N : Int) - 1 = (n : Int) := by omega
        have hNn2 : N - 1 = n := by omega
        have C85 := Lib.hid c85
        clear hN hcp2 hcp1 hrl c85
        go_wp2_with (go_at_call 85; refine (C85.out _).mono ?_; rintro e w4 ⟨rfl, l, hperm, hsort, hpl, hkeep, hb4⟩)
        all_goals
          have hbn := (HB1.out.trans ((hbel.alloc hbel.size (.cells #[.int .i64 f.1, .int .i64 f.2] 26)).mono hb1.size)).trans (hb4.mono (by have := hb1.size; omega))
          have hfin : ∀ c : Nat, PlacesErr w (f :: l, 0) (.returned (.tuple #[.slice (some ⟨g, 0, none⟩) N c, .int .i64 0])) w4 := by
            intro c
            refine ⟨some ⟨g, 0, none⟩, c, ?_, .inr ⟨g, 0, rfl, ?_, ?_⟩, hbn⟩
            · have : N = (f :: l).length := by rw [HNN.out, List.length_cons, hperm.length_eq, HN.out]
              rw [this]
            · have := hb4.size; simp at this; omega
            · intro i hi
              cases i with
              | zero =>
                rw [List.getD_cons_zero]
                exact ⟨(hkeep 0 (by omega)).trans ((World.cell?_alloc_old _ _ _ hgw).trans a1), (hkeep 1 (by omega)).trans ((World.cell?_alloc_old _ _ _ hgw).trans a2)⟩
              | succ j =>
                obtain ⟨x1, x2, _, _⟩ := hpl j (by simpa using hi)
                rw [List.getD_cons_succ, show 0 + (j + 1) * 2 = 2 + j * 2 by omega]
                exact ⟨x1, x2⟩
          go_ret2
          exact ⟨f :: l, 0, .inr ⟨H0.out, rfl, f, r, l, HFR.out, hperm, hsort, rfl⟩, hfin _⟩
  · have hb : (errP ps != 0) = true := by simp [h0]
    have H0 := Lib.hid h0
    clear h0
    go_enter Try.func49, Try.ntmps49
    go_wp2_with (go_at_call 55; refine C1.out.mono ?_; rintro e w1 ⟨rfl, hb1⟩)
    go_ret2
    exact ⟨[], errP ps, .inl ⟨H0.out, rfl, rfl⟩, none, 0, rfl, .inl rfl, hb1⟩
end Go.Proofs.Ytcalipoknbbaaaa
