/- PropNarrowed: the law's body. -/
import Derived.Test.YtffblmhaoekkgaaPrpAB
import Derived.Test.YtffblmhaoekkgaaKW
import Derived.Deep.CutRange
import Derived.Deep.CutBlock
namespace Go.Proofs.Ytffblmhaoekkgaa.prp
open Go.RowKit
set_option linter.unusedSimpArgs false
set_option linter.unusedVariables false
open Go.Proofs.Ytffblmhaoekkgaa.ev (works_any)

/-- fractions in memory -/
def Frs (W : World) (bs : List (Nat × Fr)) : Prop := ∀ p ∈ bs, p.1 < W.heap.size ∧ W.cell? ⟨p.1, 0, none⟩ = some (.int .i64 p.2.1) ∧ W.cell? ⟨p.1, 1, none⟩ = some (.int .i64 p.2.2)
theorem Frs.go {W W' : World} {bs : List (Nat × Fr)} (h : Frs W bs) (hb : Below W.heap.size W W') : Frs W' bs := fun p hp => by
  obtain ⟨h1, h2, h3⟩ := h p hp
  exact ⟨Nat.lt_of_lt_of_le h1 hb.size, (hb.cell (p := ⟨p.1, 0, none⟩) h1).trans h2, (hb.cell (p := ⟨p.1, 1, none⟩) h1).trans h3⟩
theorem Frs.nil (W : World) : Frs W [] := fun p hp => by simp at hp
theorem Frs.add {W : World} {bs : List (Nat × Fr)} (h : Frs W bs) {B : Nat} {a b : Int} (hc : Cell2 W B (.int .i64 a) (.int .i64 b)) : Frs W ((B, (a, b)) :: bs) := fun p hp => by
  rcases List.mem_cons.1 hp with rfl | hp
  · exact ⟨hc.1, hc.2.1, hc.2.2.1⟩
  · exact h p hp
/-- two new variables, which hold fractions -/
theorem Frs.two {W : World} {bs : List (Nat × Fr)} (h : Frs W bs) (a b c d : Int) (t : TypeId) :
    Frs ((W.alloc (.cells #[.int .i64 a, .int .i64 b] t)).alloc (.cells #[.int .i64 c, .int .i64 d] t)) ((W.heap.size, (a, b)) :: (W.heap.size + 1, (c, d)) :: bs) ∧ Below W.heap.size W ((W.alloc (.cells #[.int .i64 a, .int .i64 b] t)).alloc (.cells #[.int .i64 c, .int .i64 d] t)) := by
  have c0 := Cell2.new W W.heap.size rfl (.int .i64 a) (.int .i64 b) t
  have c1 := Cell2.new (W.alloc (.cells #[.int .i64 a, .int .i64 b] t)) (W.heap.size + 1) (by simp) (.int .i64 c) (.int .i64 d) t
  have hb0 : Below W.heap.size W ((W.alloc (.cells #[.int .i64 a, .int .i64 b] t)).alloc (.cells #[.int .i64 c, .int .i64 d] t)) := ((Below.refl _ _).alloc (Nat.le_refl _) _).alloc (by simp) _
  exact ⟨((h.go hb0).add c1).add (c0.below (N := W.heap.size + 1) (by omega) ((Below.refl _ _).alloc (by simp) _)), hb0⟩

theorem fair2 (a b : Int) (h : Hid (FrOk (a, b))) (w : World) : Calls Try.prog 27 #[.agg #[.int .i64 a, .int .i64 b]] w fun e w' => e = .returned (.bool true) ∧ Below w.heap.size w w' := fairOk h.out w
theorem below2 (a b c d : Int) (h : Hid (FrOk (a, b))) (h' : Hid (FrOk (c, d))) (hn : Hid (belF (a, b) (c, d) = false)) (w : World) : Calls Try.prog 31 #[.agg #[.int .i64 a, .int .i64 b], .agg #[.int .i64 c, .int .i64 d]] w fun e w' => e = .returned (.bool false) ∧ Below w.heap.size w w' := by
  have := belowOk h.out h'.out w
  rw [hn.out] at this
  exact this
set_option maxRecDepth 100000 in
set_option maxHeartbeats 8000000 in
theorem PropNarrowed_any (xs : List Int) (x1 x2 x3 : Int) (hxl : xs.length = 21) (hxo : ∀ x ∈ xs, 0 ≤ x ∧ x ≤ 255) (hx1 : 0 ≤ x1 ∧ x1 ≤ 255) (hx2 : 0 ≤ x2 ∧ x2 ≤ 255) (hx3 : 0 ≤ x3 ∧ x3 ≤ 255) (w : World) :
    Calls Try.prog 6 #[.agg (flatU xs).toArray, .int .u8 x1, .int .u8 x2, .int .u8 x3] w fun e w' => e = .returned (.bool true) ∧ Below w.heap.size w w' := by
  have hx0 := hxo _ (getD_mem xs 0 0 (by omega))
  obtain ⟨n, hn⟩ : ∃ n : Nat, (n : Int) = 1 + xs.getD 0 0 % 5 := ⟨(1 + xs.getD 0 0 % 5).toNat, by omega⟩
  have n1 : 1 ≤ n := by omega
  have n5 : n ≤ 5 := by omega
  have hE := made_err xs hxo hxl n n1 n5
  have CM := Lib.hid (fun W => made_any xs n W hxl hxo hn)
  have hlen := madeTo_length xs n
  generalize hl : madeTo xs n = l at *
  have hok := (errP_ok hE).2.2
  have HE := Lib.hid hE
  have HOK := Lib.hid hok
  subst hlen
  have hH := Hc.of (Here.start1 w xs 25)
  have HXL := Lib.hid hxl
  have hL0 : (l.length : Int) ≠ 0 := by omega
  have hKt : x1.tmod (l.length : Int) = x1 % (l.length : Int) := Int.tmod_eq_emod_of_nonneg hx1.1
  have hKm := Int.emod_nonneg x1 hL0
  have hKl := Int.emod_lt_of_pos x1 (show (0 : Int) < (l.length : Int) by omega)
  obtain ⟨K, hK⟩ : ∃ K : Nat, x1.tmod (l.length : Int) = (K : Int) := ⟨(x1 % (l.length : Int)).toNat, by omega⟩
  have hKlt : K < l.length := by omega
  obtain ⟨A, hA⟩ : ∃ A : Int, x2.tmod 11 = A := ⟨_, rfl⟩
  obtain ⟨B, hB⟩ : ∃ B : Int, x3.tmod 11 = B := ⟨_, rfl⟩
  have hA2 : 0 ≤ A ∧ A ≤ 10 := by rw [Int.tmod_eq_emod_of_nonneg hx2.1] at hA; omega
  have hB2 : 0 ≤ B ∧ B ≤ 10 := by rw [Int.tmod_eq_emod_of_nonneg hx3.1] at hB; omega
  clear hl hE hok hx0 hn hxo hxl hKt hKm hKl
  go_enter Try.func6, Try.ntmps6
  go_upto_region 1 with fail
  generalize (w.alloc (.cells (flatU xs).toArray 25)) = W0 at *
  have HH := Lib.hid hH
  clear hH
  go_upto_region 2 with (first
    | (refine wpList_loadH xs HXL.out _ (HH.out.b (B := w.heap.size) (by simp)) (.tmp 4) rfl rfl rfl ?_)
    | (go_at_call 12; refine (CM.out _).mono ?_; rintro e W1 ⟨q, c, rfl, hr, hq, hc, hb⟩))
  have HH1 := Lib.hid ((HH.out.go hb).add hr)
  have HCP := Lib.hid hc
  clear hr hb hq hc HH CM
  go_upto_region 4 with fail
  by_cases hno : B < A ∨ (A ≤ B ∧ (A < (l.getD K zs).least ∨ (l.getD K zs).most < B))
  · have hkn := Know_no q c l K A B W1 (HH1.out.r (by simp)) HE.out hKlt hno
    have HKN := Lib.hid hkn
    clear hkn
    by_cases hAB : B < A
    · have e7 : (if B < A then (7 : Int) else 1) = 7 := if_pos hAB
      rw [e7] at HKN
      clear hno e7
      go_wp2_with (first
        | (go_at_call 37; refine HKN.out.mono ?_; rintro e W2 ⟨rfl, hb2⟩)
        | (go_at_call 25; refine (works_any _).mono ?_; rintro e W3 ⟨rfl, hb3⟩))
      go_ret
      exact ⟨rfl, (HH1.out.bel.on hb2).on hb3⟩
    · have e1 : (if B < A then (7 : Int) else 1) = 1 := if_neg hAB
      rw [e1] at HKN
      have hno : A < (l.getD K zs).least ∨ (l.getD K zs).most < B := by
        rcases hno with h | h
        · exact absurd h hAB
        · exact h.2
      go_upto_region 5 with (go_at_call 37; refine HKN.out.mono ?_; rintro e W2 ⟨rfl, hb2⟩)
      have HB2 := Lib.hid (HH1.out.bel.on hb2)
      obtain ⟨b, off, rfl, hb, g1, g2, g3, g4⟩ := rowS_at (HH1.out.r (q := q) (vs := flatS l) (by simp)) hKlt (Nat.le_refl _) hb2
      generalize l.getD K zs = s at g1 g2 g3 g4 hno
      clear hb2 e1
      by_cases h1 : A < s.least
      · clear hno
        go_wp2_with (go_at_call 25; refine (works_any _).mono ?_; rintro e W3 ⟨rfl, hb3⟩)
        go_ret
        exact ⟨rfl, HB2.out.on hb3⟩
      · have h2 : s.most < B := by omega
        clear hno
        go_wp2_with (go_at_call 25; refine (works_any _).mono ?_; rintro e W3 ⟨rfl, hb3⟩)
        go_ret
        exact ⟨rfl, HB2.out.on hb3⟩
  · have hAB : A ≤ B := by omega
    have hlo : (l.getD K zs).least ≤ A := by omega
    have hhi : B ≤ (l.getD K zs).most := by omega
    have hkn := Know_ok q c l K A B W1 (HH1.out.r (by simp)) HE.out hKlt hAB hlo hhi
    have HKN := Lib.hid hkn
    have hnar := nar_of (l := l) (a := A) (b := B) hKlt hlo hhi
    have hE2 := nar_err HE.out hKlt hAB hlo hhi
    have hok2 := (errP_ok hE2).2.2
    have hmlen := narS_length l K A B
    have hstn := hnar.stands HOK.out hok2
    have HSTN := Lib.hid hstn
    have HNAR := Lib.hid hnar
    have HE2 := Lib.hid hE2
    have HOK2 := Lib.hid hok2
    have HML := Lib.hid hmlen
    have nAB : ¬ B < A := by omega
    clear hkn hno hE2 hok2 hnar hmlen hstn
    go_upto_region 5 with (go_at_call 37; refine HKN.out.mono ?_; rintro e W2 ⟨q2, c2, rfl, hr2, hb2⟩)
    have HH2 := Lib.hid ((HH1.out.go hb2).add hr2)
    obtain ⟨b, off, rfl, hb, g1, g2, g3, g4⟩ := rowS_at (HH1.out.r (q := q) (vs := flatS l) (by simp)) hKlt (Nat.le_refl _) hb2
    have n2 : ¬ A < (l.getD K zs).least := by omega
    have n3 : ¬ (l.getD K zs).most < B := by omega
    have HCL := Lib.hid (fun W (hh : Hc w W [(q2, flatS (narS l K A B)), (some ⟨b, off, none⟩, flatS l)] [(w.heap.size, xs)] []) => cloneS_any (some ⟨b, off, none⟩) c l W (hh.r (by simp)) n1 (by omega))
    generalize hm : narS l K A B = m at *
    generalize (l.getD K zs) = s at *
    have HM := Lib.hid hm
    clear hb2 hr2 HKN HH1 hlo hhi
    go_upto_region 9 with fail
    clear g1 g2 g3 g4
    go_upto_region 10 with (go_at_call 36; refine (HCL.out _ HH2.out).mono ?_; rintro e W3 ⟨g, cap, rfl, hown, hb3⟩)
    have hlt := hown.lt
    have hce2 := World.ownsRow.cellAt hown (K * 4 + 2) (by omega)
    have hce3 := World.ownsRow.cellAt hown (K * 4 + 3) (by omega)
    obtain ⟨_, _, f2, f3⟩ := flatS_get l K hKlt
    rw [f2] at hce2
    rw [f3] at hce3
    have hfz2 := World.ownsRow.frozenAt hown (K * 4 + 2)
    have hfz3 := World.ownsRow.frozenAt hown (K * 4 + 3)
    have hbo := hown.bounds K hKlt A B
    rw [HM.out] at hbo
    have hcl := hown.caple
    have hK5 : (K : Int) < 5 := by omega
    have HBO := Lib.hid hbo
    have HB3 := Lib.hid hb3
    clear hbo hown f2 f3 hb3
    go_upto_region 11 with fail
    have HH4 := Lib.hid ((HH2.out.go (HB3.out.trans HBO.out.2)).add HBO.out.1.row)
    clear hce2 hce3 hfz2 hfz3 HBO HB3 HH2
    generalize ((W3.setCell ⟨g, K * 4 + 2, none⟩ (.int .i64 A)).setCell ⟨g, K * 4 + 3, none⟩ (.int .i64 B)) = W4 at *
    have hst := stones_any q2 (some ⟨g, 0, none⟩) c2 cap m W4 (HH4.out.r (by simp)) (HH4.out.r (by simp)) (by have := HML.out; omega)
    rw [HML.out] at hst
    have HST := Lib.hid hst
    clear hst
    go_upto_region 13 with (go_at_call 38; refine HST.out.mono ?_; rintro e W5 ⟨rfl, hb5⟩)
    have HH5 := Lib.hid (HH4.out.go hb5)
    clear hb5 HST HH4
    have hs1 := Stands_any (some ⟨b, off, none⟩) c l W5 (HH5.out.r (by simp)) (by omega)
    have e1 : standsOf l = (standsS l, 0) := by unfold standsOf; rw [if_neg (by simpa using HE.out)]
    rw [e1] at hs1
    have HS1 := Lib.hid hs1
    clear hs1 e1
    go_upto_region 14 with (go_at_call 14; refine HS1.out.mono ?_; rintro e W6 ⟨rfl, hb6⟩)
    have HH6 := Lib.hid (HH5.out.go hb6)
    clear hb6 HS1 HH5
    have hs2 := Stands_any (some ⟨g, 0, none⟩) cap m W6 (HH6.out.r (by simp)) (by have := HML.out; omega)
    have e1 : standsOf m = (standsS m, 0) := by unfold standsOf; rw [if_neg (by simpa using HE2.out)]
    rw [e1, HML.out] at hs2
    have HS2 := Lib.hid hs2
    clear hs2 e1
    go_upto_region 15 with (go_at_call 14; refine HS2.out.mono ?_; rintro e W7 ⟨rfl, hb7⟩)
    have HH7 := Lib.hid (HH6.out.go hb7)
    clear hb7 HS2 HH6
    generalize standsS l = X at *
    generalize standsS m = Y at *
    go_cut [130] from 118 to 130 (fun v wx => v = .bool false ∧ wx = W7)
    case first =>
      cases X
      · go_wp2
        go_meet
        case rel => exact ⟨rfl, rfl⟩
      · obtain rfl : Y = true := HSTN.out rfl
        go_wp2
        go_meet
        case rel => exact ⟨rfl, rfl⟩
    case rest =>
    obtain ⟨rfl, rfl⟩ := hcut
    clear HSTN
    go_wp2
    clear HCL hm HM
    go_loopw [133] (fun i wr => ∃ k : Nat, k ≤ l.length ∧ i = .int .i64 k ∧ Hid (Hc w wr [(some ⟨g, 0, none⟩, flatS m), (some ⟨b, off, none⟩, flatS l)] [] [])) (fun i _ => l.length - (intOf i).toNat)
    case atStart => exact ⟨0, Nat.zero_le _, rfl, Lib.hid (HH7.out.sub (by simp) (by simp) (by simp))⟩
    case round =>
      obtain ⟨k, hk, rfl, HHr⟩ := hrel
      by_cases hlk : k < l.length
      · have hsp1 := Span_ok (some ⟨b, off, none⟩) c l k wr (HHr.out.r (by simp)) HE.out hlk HCP.out
        have fo1 := low_ok HOK.out n5 hlk
        have fo2 := high_ok HOK.out n5 hlk
        have fo3 := low_ok HOK2.out (by have := HML.out; omega) (lv := k) (by have := HML.out; omega)
        have fo4 := high_ok HOK2.out (by have := HML.out; omega) (lv := k) (by have := HML.out; omega)
        have lf1 := leF_not (HNAR.out.low HOK.out HOK2.out n5 hlk)
        have lf2 := leF_not (HNAR.out.high HOK.out HOK2.out n5 hlk)
        have hsp2 := fun W (h : Hc w W [(some ⟨g, 0, none⟩, flatS m), (some ⟨b, off, none⟩, flatS l)] [] []) => Span_ok (some ⟨g, 0, none⟩) cap m k W (h.r (by simp)) HE2.out (by have := HML.out; omega) (by have := HML.out; omega)
        rw [HML.out] at hsp2
        generalize lowS l k = c1 at *
        generalize highS l k = d1 at *
        generalize lowS m k = g1 at *
        generalize highS m k = h1 at *
        have HS1 := Lib.hid hsp1
        have HS2 := Lib.hid hsp2
        clear hsp1 hsp2
        obtain ⟨c11, c12⟩ := c1
        obtain ⟨d11, d12⟩ := d1
        obtain ⟨g11, g12⟩ := g1
        obtain ⟨h11, h12⟩ := h1
        unfold frP frV at *
        simp only at HS1 HS2
        have O1 := Lib.hid fo1
        have O2 := Lib.hid fo2
        have O3 := Lib.hid fo3
        have O4 := Lib.hid fo4
        have L1 := Lib.hid lf1
        have L2 := Lib.hid lf2
        clear fo1 fo2 fo3 fo4 lf1 lf2
        go_upto_region 21 with (go_at_call 26; refine HS1.out.mono ?_; rintro e W8 ⟨rfl, hb8⟩)
        have ht := (Frs.nil W8).two c11 c12 d11 d12 51
        have HF9 := Lib.hid ht.1
        have HB9 := Lib.hid (hb8.on ht.2)
        clear ht hb8 HS1
        generalize hB0 : W8.heap.size = B0 at *
        generalize ((W8.alloc (.cells #[.int .i64 c11, .int .i64 c12] 51)).alloc (.cells #[.int .i64 d11, .int .i64 d12] 51)) = W9 at *
        go_upto_region 22 with (go_at_call 26; refine (HS2.out _ (HHr.out.go HB9.out)).mono ?_; rintro e W10 ⟨rfl, hb10⟩)
        have ht := (HF9.out.go hb10).two g11 g12 h11 h12 51
        have HF := Lib.hid ht.1
        have HB := Lib.hid ((HB9.out.on hb10).on ht.2)
        clear ht hb10 HS2 HF9 HB9
        generalize hB1 : W10.heap.size = B1 at *
        generalize ((W10.alloc (.cells #[.int .i64 g11, .int .i64 g12] 51)).alloc (.cells #[.int .i64 h11, .int .i64 h12] 51)) = W11 at *
        obtain ⟨y0, y1, y2⟩ := HF.out (B1, (g11, g12)) (by simp)
        obtain ⟨y3, y4, y5⟩ := HF.out (B1 + 1, (h11, h12)) (by simp)
        obtain ⟨y6, y7, y8⟩ := HF.out (B0, (c11, c12)) (by simp)
        obtain ⟨y9, ya, yb⟩ := HF.out (B0 + 1, (d11, d12)) (by simp)
        go_wp2_with (first
          | (go_at_call 27; refine (fair2 _ _ (by first | exact O1 | exact O2 | exact O3 | exact O4) _).mono ?_; rintro e W ⟨rfl, hb⟩; replace HF := Lib.hid (HF.out.go hb); replace HB := Lib.hid (HB.out.on hb); clear hb; obtain ⟨y0, y1, y2⟩ := HF.out (B1, (g11, g12)) (by simp); obtain ⟨y3, y4, y5⟩ := HF.out (B1 + 1, (h11, h12)) (by simp); obtain ⟨y6, y7, y8⟩ := HF.out (B0, (c11, c12)) (by simp); obtain ⟨y9, ya, yb⟩ := HF.out (B0 + 1, (d11, d12)) (by simp))
          | (go_at_call 31; refine (below2 _ _ _ _ (by first | exact O2 | exact O3) (by first | exact O1 | exact O4) (by first | exact L1 | exact L2) _).mono ?_; rintro e W ⟨rfl, hb⟩; replace HF := Lib.hid (HF.out.go hb); replace HB := Lib.hid (HB.out.on hb); clear hb; obtain ⟨y0, y1, y2⟩ := HF.out (B1, (g11, g12)) (by simp); obtain ⟨y3, y4, y5⟩ := HF.out (B1 + 1, (h11, h12)) (by simp); obtain ⟨y6, y7, y8⟩ := HF.out (B0, (c11, c12)) (by simp); obtain ⟨y9, ya, yb⟩ := HF.out (B0 + 1, (d11, d12)) (by simp)))
        go_roundw
        case rel => exact ⟨k + 1, hlk, by go_num, Lib.hid (HHr.out.go HB.out)⟩
        case measure => simp [intOf]; omega
      · obtain rfl : k = l.length := by omega
        go_wp2_with (go_at_call 25; refine (works_any _).mono ?_; rintro e W9 ⟨rfl, hb9⟩)
        go_ret
        exact ⟨rfl, HHr.out.bel.on hb9⟩
end Go.Proofs.Ytffblmhaoekkgaa.prp
