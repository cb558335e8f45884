/- Chapter 7's law: helpers walked; fractions. -/
import Derived.Test.YtffblmhaoekkgaaPrpX1
import Derived.Deep.AppendLies
import Derived.Deep.RegionHeld3
import Derived.Deep.RegionLaw
import Derived.Deep.RegionWith

/- Chapter 7's law, the walks: moments. -/
namespace Go.Proofs.Ytffblmhaoekkgaa.prp
open Go.RowKit
set_option linter.unusedSimpArgs false
set_option linter.unusedVariables false

/-- the sum of F from lv up to k -/
def psum (F : Nat → Int) (lv k : Nat) : Int := (((List.range k).drop lv).map F).sum
theorem psum_self (F : Nat → Int) (lv : Nat) : psum F lv lv = 0 := by unfold psum; rw [List.drop_of_length_le (by simp)]; rfl
theorem psum_succ (F : Nat → Int) (lv k : Nat) (h : lv ≤ k) : psum F lv (k + 1) = psum F lv k + F k := by
  unfold psum
  rw [List.range_succ, List.drop_append_of_le_length (by simp; exact h), List.map_append, List.sum_append]
  simp
theorem psum_bd (F : Nat → Int) (b : Int) (hb : 0 ≤ b) (lv : Nat) : ∀ k, lv ≤ k → (∀ i, i < k → -b ≤ F i ∧ F i ≤ b) → -(b * k) ≤ psum F lv k ∧ psum F lv k ≤ b * k
  | 0, h, _ => by rw [show lv = 0 by omega, psum_self]; simp
  | k + 1, h, hF => by
    by_cases e : lv = k + 1
    · subst e; rw [psum_self]
      have : 0 ≤ b * ((k + 1 : Nat) : Int) := Int.mul_nonneg hb (by omega)
      omega
    · have ih := psum_bd F b hb lv k (by omega) fun i hi => hF i (by omega)
      have hx := hF k (by omega)
      rw [psum_succ F lv k (by omega)]
      have e : b * ((k + 1 : Nat) : Int) = b * k + b := by rw [Int.natCast_succ, Int.mul_add, Int.mul_one]
      rw [e]
      omega
/-- what a stone adds to the right and to the left -/
def addR (l : List Sn) (ws : List Int) (lv : Nat) (i : Nat) : Int := ws.getD i 0 * ((l.getD i zs).at_ - edgeS l lv 1) * 1
def addL (l : List Sn) (ws : List Int) (lv : Nat) (i : Nat) : Int := ws.getD i 0 * ((l.getD i zs).at_ - edgeS l lv (-1)) * (-1)
theorem momR (l : List Sn) (ws : List Int) (lv : Nat) : momS l ws lv 1 = psum (addR l ws lv) lv l.length := rfl
theorem momL (l : List Sn) (ws : List Int) (lv : Nat) : momS l ws lv (-1) = psum (addL l ws lv) lv l.length := rfl
/-- what the law's moments answers -/
def momsOf (l : List Sn) (ws : List Int) (lv : Nat) : Int × Int := (momS l ws lv 1, if lv = 0 then 0 else momS l ws lv (-1))
set_option maxRecDepth 100000 in
set_option maxHeartbeats 4000000 in
theorem moments0_any (q : Option Addr) (cap : Nat) (l : List Sn) (q2 : Option Addr) (c2 : Nat) (ws : List Int) (w : World) (hr : RowV w q (flatS l)) (hr2 : RowV w q2 (flatI ws)) (hl : l.length ≤ 5) (hok : ∀ s ∈ l, okS s) (hwl : ws.length = l.length) (hwo : ∀ x ∈ ws, 0 ≤ x ∧ x ≤ 100) :
    Calls Try.prog 18 #[.slice q l.length cap, .slice q2 ws.length c2, .int .i64 0] w fun e w' => e = .returned (.tuple #[.int .i64 (momS l ws 0 1), .int .i64 0]) ∧ Below w.heap.size w w' := by
  have hF : ∀ i, i < l.length → -200000000000 ≤ addR l ws 0 i ∧ addR l ws 0 i ≤ 200000000000 := fun i hi => by
    obtain ⟨_, _, h3, h4, _⟩ := hok _ (getD_mem l i zs hi)
    have hw := hwo _ (getD_mem ws i 0 (by omega))
    have e0 : edgeS l 0 1 = 0 := rfl
    have hp := prod_bd (a := ws.getD i 0) (b := (l.getD i zs).at_ - edgeS l 0 1) (A := 100) (B := 2000000000) ⟨by omega, by omega⟩ (by rw [e0]; omega)
    unfold addR
    rw [Int.mul_one]
    omega
  have hbd := fun k (hk : k ≤ l.length) => psum_bd (addR l ws 0) 200000000000 (by omega) 0 k (by omega) fun i hi => hF i (by omega)
  rw [momR]
  have HF := Lib.hid hF
  have HBD := Lib.hid hbd
  have HOK := Lib.hid hok
  have HWO := Lib.hid hwo
  clear hF hbd hok hwo
  go_enter Try.func18, Try.ntmps18
  go_wp2
  go_loopw [6, 7, 8] (fun s s2 i wr => ∃ k : Nat, k ≤ l.length ∧ i = .int .i64 k ∧ s = .int .i64 (psum (addR l ws 0) 0 k) ∧ s2 = .int .i64 0 ∧ Below w.heap.size w wr) (fun _ _ i _ => l.length - (intOf i).toNat)
  case atStart => exact ⟨0, Nat.zero_le _, rfl, by rw [psum_self], rfl, Below.refl _ _⟩
  case round =>
    obtain ⟨k, hk, rfl, rfl, rfl, hbel⟩ := hrel
    by_cases hlt : k < l.length
    · obtain ⟨b, off, rfl, hb, h1, h2, h3, h4⟩ := rowS_at hr hlt (Nat.le_refl _) hbel
      obtain ⟨b2, off2, rfl, hb2, h5⟩ := rowI_at hr2 (k := k) (by omega) (Nat.le_refl _) hbel
      have hs := psum_succ (addR l ws 0) 0 k (by omega)
      have hb0 := HBD.out k (by omega)
      have hb1 := HBD.out (k + 1) (by omega)
      have hf := HF.out k hlt
      have hA : addR l ws 0 k = ws.getD k 0 * (l.getD k zs).at_ := by simp [addR, edgeS]
      rw [hs] at hb1
      rw [hA] at hs hb1 hf
      generalize (l.getD k zs) = g at h1 h2 h3 h4 hs hb1 hf
      generalize ws.getD k 0 = x at h5 hs hb1 hf
      have w1 : wrap64 (x * g.at_) = x * g.at_ := IntWalk.wrap64_in _ ⟨by omega, by omega⟩
      have w2 : wrap64 (psum (addR l ws 0) 0 k + x * g.at_) = psum (addR l ws 0) 0 k + x * g.at_ := IntWalk.wrap64_in _ ⟨by omega, by omega⟩
      have HS := Lib.hid hs
      have W1 := Lib.hid w1
      have W2 := Lib.hid w2
      clear hs hb0 hb1 hf hA w1 w2
      have hkw : (k : Int) < (ws.length : Int) := by omega
      go_upto_region 5 with fail
      go_region
      all_goals go_wp2
      all_goals exact ⟨⟨k + 1, hlt, by go_num, by rw [HS.out, W1.out, W2.out], rfl, hbel.drew⟩, by simp [intOf]; omega⟩
    · obtain rfl : k = l.length := by omega
      go_wp2
      go_ret2
      exact ⟨rfl, hbel⟩

theorem add_bd {l : List Sn} {ws : List Int} {lv : Nat} (hok : ∀ s ∈ l, okS s) (hwl : ws.length = l.length) (hwo : ∀ x ∈ ws, 0 ≤ x ∧ x ≤ 100) (hlv : lv < l.length) : ∀ i, i < l.length → (-200000000000 ≤ addR l ws lv i ∧ addR l ws lv i ≤ 200000000000) ∧ -200000000000 ≤ addL l ws lv i ∧ addL l ws lv i ≤ 200000000000 := fun i hi => by
  obtain ⟨_, _, h3, h4, _⟩ := hok _ (getD_mem l i zs hi)
  have hw := hwo _ (getD_mem ws i 0 (by omega))
  have hR := edgeS_bd hok hlv (d := 1) (.inl rfl)
  have hL := edgeS_bd hok hlv (d := -1) (.inr rfl)
  have hp := prod_bd (a := ws.getD i 0) (b := (l.getD i zs).at_ - edgeS l lv 1) (A := 100) (B := 2000000000) ⟨by omega, by omega⟩ ⟨by omega, by omega⟩
  have hq := prod_bd (a := ws.getD i 0) (b := (l.getD i zs).at_ - edgeS l lv (-1)) (A := 100) (B := 2000000000) ⟨by omega, by omega⟩ ⟨by omega, by omega⟩
  unfold addR addL
  generalize ws.getD i 0 * ((l.getD i zs).at_ - edgeS l lv 1) = p at hp
  generalize ws.getD i 0 * ((l.getD i zs).at_ - edgeS l lv (-1)) = p2 at hq
  omega
set_option maxRecDepth 100000 in
set_option maxHeartbeats 4000000 in
theorem moments1_any (q : Option Addr) (cap : Nat) (l : List Sn) (q2 : Option Addr) (c2 : Nat) (ws : List Int) (lv : Nat) (w : World) (hr : RowV w q (flatS l)) (hr2 : RowV w q2 (flatI ws)) (hl : l.length ≤ 5) (hok : ∀ s ∈ l, okS s) (hwl : ws.length = l.length) (hwo : ∀ x ∈ ws, 0 ≤ x ∧ x ≤ 100) (hlv : lv < l.length) (h0 : lv ≠ 0) :
    Calls Try.prog 18 #[.slice q l.length cap, .slice q2 ws.length c2, .int .i64 lv] w fun e w' => e = .returned (.tuple #[.int .i64 (momS l ws lv 1), .int .i64 (momS l ws lv (-1))]) ∧ Below w.heap.size w w' := by
  have hF := add_bd hok hwl hwo hlv
  have hbdR := fun k (h1 : lv ≤ k) (hk : k ≤ l.length) => psum_bd (addR l ws lv) 200000000000 (by omega) lv k h1 fun i hi => (hF i (by omega)).1
  have hbdL := fun k (h1 : lv ≤ k) (hk : k ≤ l.length) => psum_bd (addL l ws lv) 200000000000 (by omega) lv k h1 fun i hi => (hF i (by omega)).2
  rw [momR, momL]
  have HF := Lib.hid hF
  have HBR := Lib.hid hbdR
  have HBL := Lib.hid hbdL
  have HOK := Lib.hid hok
  have HWO := Lib.hid hwo
  clear hF hbdR hbdL hok hwo
  have hz : ((lv : Int) == 0) = false := by rw [beq_eq_false_iff_ne]; omega
  go_enter Try.func18, Try.ntmps18
  go_wp2
  go_loopw [6, 7, 8] (fun s s2 i wr => ∃ k : Nat, lv ≤ k ∧ k ≤ l.length ∧ i = .int .i64 k ∧ s = .int .i64 (psum (addR l ws lv) lv k) ∧ s2 = .int .i64 (psum (addL l ws lv) lv k) ∧ Below w.heap.size w wr) (fun _ _ i _ => l.length - (intOf i).toNat)
  case atStart => exact ⟨lv, Nat.le_refl _, by omega, rfl, by rw [psum_self], by rw [psum_self], Below.refl _ _⟩
  case round =>
    obtain ⟨k, hlk, hk, rfl, rfl, rfl, hbel⟩ := hrel
    by_cases hlt : k < l.length
    · obtain ⟨b, off, rfl, hb, h1, h2, h3, h4⟩ := rowS_at hr hlt (Nat.le_refl _) hbel
      obtain ⟨b', off', e', hb', k1, k2, k3, k4⟩ := rowS_at hr (show lv - 1 < l.length by omega) (Nat.le_refl _) hbel
      injection e' with e'
      injection e' with e1 e2 e3
      subst e1 e2
      obtain ⟨b2, off2, rfl, hb2, h5⟩ := rowI_at hr2 (k := k) (by omega) (Nat.le_refl _) hbel
      have hsR := psum_succ (addR l ws lv) lv k hlk
      have hsL := psum_succ (addL l ws lv) lv k hlk
      have hR0 := HBR.out k hlk (by omega)
      have hR1 := HBR.out (k + 1) (by omega) (by omega)
      have hL0 := HBL.out k hlk (by omega)
      have hL1 := HBL.out (k + 1) (by omega) (by omega)
      have hf := HF.out k hlt
      have hg := HOK.out _ (getD_mem l k zs hlt)
      have hsn := HOK.out _ (getD_mem l (lv - 1) zs (by omega))
      have hx := HWO.out _ (getD_mem ws k 0 (by omega))
      have hAR : addR l ws lv k = ws.getD k 0 * ((l.getD k zs).at_ - (l.getD (lv - 1) zs).at_ - (l.getD (lv - 1) zs).half) := by
        simp only [addR, edgeS, if_neg h0, Int.mul_one, Int.one_mul]; congr 1; omega
      have hAL : addL l ws lv k = ws.getD k 0 * ((l.getD (lv - 1) zs).at_ - (l.getD (lv - 1) zs).half - (l.getD k zs).at_) := by
        simp only [addL, edgeS, if_neg h0]
        rw [Int.mul_assoc]; congr 1; omega
      rw [hsR] at hR1
      rw [hsL] at hL1
      rw [hAR] at hsR hR1 hf
      rw [hAL] at hsL hL1 hf
      clear hAR hAL
      generalize (l.getD k zs) = g at h1 h2 h3 h4 hsR hsL hR1 hL1 hf hg
      generalize (l.getD (lv - 1) zs) = s at k1 k2 k3 k4 hsR hsL hR1 hL1 hf hsn
      generalize ws.getD k 0 = x at h5 hsR hsL hR1 hL1 hf hx
      obtain ⟨_, _, g3, g4, _⟩ := hg
      obtain ⟨s1, s2, s3, s4, _⟩ := hsn
      generalize hPR : psum (addR l ws lv) lv k = PR at *
      generalize hPL : psum (addL l ws lv) lv k = PL at *
      have v1 : wrap64 (g.at_ - s.at_) = g.at_ - s.at_ := IntWalk.wrap64_in _ ⟨by omega, by omega⟩
      have v2 : wrap64 (g.at_ - s.at_ - s.half) = g.at_ - s.at_ - s.half := IntWalk.wrap64_in _ ⟨by omega, by omega⟩
      have v3 : wrap64 (s.at_ - s.half) = s.at_ - s.half := IntWalk.wrap64_in _ ⟨by omega, by omega⟩
      have v4 : wrap64 (s.at_ - s.half - g.at_) = s.at_ - s.half - g.at_ := IntWalk.wrap64_in _ ⟨by omega, by omega⟩
      have w1 : wrap64 (x * (g.at_ - s.at_ - s.half)) = x * (g.at_ - s.at_ - s.half) := IntWalk.wrap64_in _ ⟨by omega, by omega⟩
      have w2 : wrap64 (PR + x * (g.at_ - s.at_ - s.half)) = PR + x * (g.at_ - s.at_ - s.half) := IntWalk.wrap64_in _ ⟨by omega, by omega⟩
      have w3 : wrap64 (x * (s.at_ - s.half - g.at_)) = x * (s.at_ - s.half - g.at_) := IntWalk.wrap64_in _ ⟨by omega, by omega⟩
      have w4 : wrap64 (PL + x * (s.at_ - s.half - g.at_)) = PL + x * (s.at_ - s.half - g.at_) := IntWalk.wrap64_in _ ⟨by omega, by omega⟩
      have hbA : Below wr.heap.size wr (wr.alloc (.cells #[.int .i64 s.half, .int .i64 s.at_, .int .i64 s.least, .int .i64 s.most] 44)).drew := below_drewN ((Below.refl _ _).alloc (Nat.le_refl _) _) _
      have hbB : Below wr.heap.size wr (wr.alloc (.cells #[.int .i64 s.half, .int .i64 s.at_, .int .i64 s.least, .int .i64 s.most] 44)).drew.drew := below_drewN hbA _
      have hzz := hbel.size
      have h2A := (hbA.cell (p := ⟨b, off + k * 4 + 1, none⟩) (by show b < _; omega)).trans h2
      have h5A := (hbA.cell (p := ⟨b2, off2 + k, none⟩) (by show b2 < _; omega)).trans h5
      have h2B := (hbB.cell (p := ⟨b, off + k * 4 + 1, none⟩) (by show b < _; omega)).trans h2
      have h5B := (hbB.cell (p := ⟨b2, off2 + k, none⟩) (by show b2 < _; omega)).trans h5
      have HSR := Lib.hid hsR
      have HSL := Lib.hid hsL
      have U1 := Lib.hid w1
      have U2 := Lib.hid w2
      have U3 := Lib.hid w3
      have U4 := Lib.hid w4
      have HBB := Lib.hid (hbel.on hbB)
      have hkw : (k : Int) < (ws.length : Int) := by omega
      clear hsR hsL hR0 hR1 hL0 hL1 hf w1 w2 w3 w4 hbA hbB
      go_upto_region 7 with fail
      go_region
      all_goals go_upto_region 8 with fail
      all_goals go_region
      all_goals go_wp2
      all_goals exact ⟨⟨k + 1, by omega, hlt, by go_num, by rw [HSR.out, U1.out, U2.out], by rw [HSL.out, U3.out, U4.out], HBB.out⟩, by simp [intOf]; omega⟩
    · obtain rfl : k = l.length := by omega
      go_wp2
      go_ret2
      exact ⟨rfl, hbel⟩
end Go.Proofs.Ytffblmhaoekkgaa.prp

/- Chapter 7's law, the walks: moments at every level, total. -/
namespace Go.Proofs.Ytffblmhaoekkgaa.prp
open Go.RowKit
set_option linter.unusedSimpArgs false
set_option linter.unusedVariables false

/-- the law's moments -/
theorem moments_any (q : Option Addr) (cap : Nat) (l : List Sn) (q2 : Option Addr) (c2 : Nat) (ws : List Int) (lv : Nat) (w : World) (hr : RowV w q (flatS l)) (hr2 : RowV w q2 (flatI ws)) (hl : l.length ≤ 5) (hok : ∀ s ∈ l, okS s) (hwl : ws.length = l.length) (hwo : ∀ x ∈ ws, 0 ≤ x ∧ x ≤ 100) (hlv : lv < l.length) :
    Calls Try.prog 18 #[.slice q l.length cap, .slice q2 ws.length c2, .int .i64 lv] w fun e w' => e = .returned (.tuple #[.int .i64 (momsOf l ws lv).1, .int .i64 (momsOf l ws lv).2]) ∧ Below w.heap.size w w' := by
  by_cases h0 : lv = 0
  · subst h0
    exact moments0_any q cap l q2 c2 ws w hr hr2 hl hok hwl hwo
  · have h := moments1_any q cap l q2 c2 ws lv w hr hr2 hl hok hwl hwo hlv h0
    simp only [momsOf, if_neg h0]
    exact h

theorem sum_take_succ (l : List Int) (k : Nat) (hk : k < l.length) : (l.take (k + 1)).sum = (l.take k).sum + l.getD k 0 := by
  rw [List.take_add_one, List.getElem?_eq_getElem hk, List.getD_eq_getElem?_getD, List.getElem?_eq_getElem hk, List.sum_append]
  simp
theorem sum_take_bd (l : List Int) (b : Int) (hb : 0 ≤ b) (hl : ∀ x ∈ l, -b ≤ x ∧ x ≤ b) : ∀ k, k ≤ l.length → -(b * k) ≤ (l.take k).sum ∧ (l.take k).sum ≤ b * k
  | 0, _ => by simp
  | k + 1, hk => by
    have ih := sum_take_bd l b hb hl k (by omega)
    have hx := hl _ (getD_mem l k 0 (by omega))
    rw [sum_take_succ l k (by omega)]
    have e : b * ((k + 1 : Nat) : Int) = b * k + b := by rw [Int.natCast_succ, Int.mul_add, Int.mul_one]
    rw [e]
    omega

set_option maxRecDepth 100000 in
set_option maxHeartbeats 4000000 in
/-- the law's total -/
theorem total_any (q : Option Addr) (cap : Nat) (l : List Int) (w : World) (hr : RowV w q (flatI l)) (hl : l.length ≤ 1000) (hlo : ∀ x ∈ l, -1000000000 ≤ x ∧ x ≤ 1000000000) :
    Calls Try.prog 51 #[.slice q l.length cap] w fun e w' => e = .returned (.int .i64 l.sum) ∧ Below w.heap.size w w' := by
  have hbd := sum_take_bd l 1000000000 (by omega) hlo
  have HBD := Lib.hid hbd
  have HLO := Lib.hid hlo
  clear hbd hlo
  go_enter Try.func51, Try.ntmps51
  go_wp2
  go_loopw [3, 8] (fun s i wr => ∃ k : Nat, k ≤ l.length ∧ i = .int .i64 k ∧ s = .int .i64 (l.take k).sum ∧ Below w.heap.size w wr) (fun _ i _ => l.length - (intOf i).toNat)
  case atStart => exact ⟨0, Nat.zero_le _, rfl, by simp, Below.refl _ _⟩
  case round =>
    obtain ⟨k, hk, rfl, rfl, hbel⟩ := hrel
    by_cases hlt : k < l.length
    · obtain ⟨b, off, rfl, hb, h1⟩ := rowI_at hr (k := k) (by omega) (Nat.le_refl _) hbel
      have hs := sum_take_succ l k hlt
      have hb1 := HBD.out (k + 1) (by omega)
      have hx := HLO.out _ (getD_mem l k 0 hlt)
      rw [hs] at hb1
      generalize l.getD k 0 = x at h1 hs hb1 hx
      have w1 : wrap64 ((l.take k).sum + x) = (l.take k).sum + x := IntWalk.wrap64_in _ ⟨by omega, by omega⟩
      have HS := Lib.hid hs
      have W1 := Lib.hid w1
      clear hs hb1 w1
      go_wp2
      all_goals exact ⟨⟨k + 1, by omega, by go_num, by rw [HS.out, W1.out], hbel⟩, by simp [intOf]; omega⟩
    · obtain rfl : k = l.length := by omega
      go_wp2
      go_ret
      rw [List.take_length]
      exact ⟨rfl, hbel⟩
end Go.Proofs.Ytffblmhaoekkgaa.prp

/- Chapter 7's law, the walks: truth (weights by numbers). -/
namespace Go.Proofs.Ytffblmhaoekkgaa.prp
open Go.RowKit
set_option linter.unusedSimpArgs false
set_option linter.unusedVariables false

/-- numbers of eight bits, as cells -/
def flatU (xs : List Int) : List Value := xs.map (Value.int .u8)
theorem flatU_length (xs : List Int) : (flatU xs).length = xs.length := by simp [flatU]
theorem flatU_get (xs : List Int) (k : Nat) (hk : k < xs.length) : (flatU xs)[k]? = some (.int .u8 (xs.getD k 0)) := by
  unfold flatU
  rw [List.getElem?_map, List.getElem?_eq_getElem hk, getD_eq xs k 0 hk]
  rfl
/-- the weight that a number tells -/
def truth1 (s : Sn) (x : Int) : Int := s.least + x.tmod (s.most - s.least + 1)
def truthTo (l : List Sn) (xs : List Int) (k : Nat) : List Int := (List.range k).map fun i => truth1 (l.getD i zs) (xs.getD i 0)
theorem truthTo_succ (l : List Sn) (xs : List Int) (k : Nat) : truthTo l xs (k + 1) = truthTo l xs k ++ [truth1 (l.getD k zs) (xs.getD k 0)] := by
  unfold truthTo; rw [List.range_succ, List.map_append]; rfl
theorem truthTo_length (l : List Sn) (xs : List Int) (k : Nat) : (truthTo l xs k).length = k := by simp [truthTo]
theorem grown_al {w w' : World} {o : Obj} {base : Nat} {e : TypeId} {size : Nat} {v : Value} {n : Nat} {xs : List Value} (hown : w.ownsRow base e size v n xs) (hb : base ≤ w.heap.size) (hg : (w.alloc o).grownBy w' v.ownBlock) : Below base w w' :=
  ((Below.refl base w).alloc hb o).trans (grown_below (hown.alloc o) (by simp; omega) hg)
theorem grown_drew {w w' : World} {o : Obj} {base : Nat} {e : TypeId} {size : Nat} {v : Value} {n : Nat} {xs : List Value} (hown : w.ownsRow base e size v n xs) (hb : base ≤ w.heap.size) (hg : (w.alloc o).drew.grownBy w' v.ownBlock) : Below base w w' :=
  ((Below.refl base w).alloc hb o).drew.trans (grown_below ((hown.alloc o).drew) (by simp; omega) hg)
theorem own_cap {w : World} {base : Nat} {e : TypeId} {size n c : Nat} {q : Option Addr} {xs : List Value} (h : w.ownsRow base e size (.slice q n c) n xs) : n ≤ c := by
  obtain ⟨_, ⟨hv, h0⟩ | ⟨g, cap, cur, hv, _, _, hnc, _⟩⟩ := h
  · omega
  · cases hv; exact hnc
/-- the box that holds the numbers -/
theorem boxU (w : World) (xs : List Int) (k : Nat) (hk : k < xs.length) : (w.alloc (.cells (flatU xs).toArray 26)).cell? ⟨w.heap.size, k, none⟩ = some (.int .u8 (xs.getD k 0)) := by
  obtain h | ⟨b, off, e, hb, hc⟩ := rowV_new w (flatU xs) 26 (0, 0)
  · have := flatU_length xs; rw [h] at this; simp at this; omega
  · injection e with e; injection e with e1 e2
    subst e1 e2
    have := hc k _ (flatU_get xs k hk)
    rw [Nat.zero_add] at this
    exact this

set_option maxRecDepth 100000 in
set_option maxHeartbeats 4000000 in
/-- the law's truth: weights by numbers -/
theorem truth_any (q : Option Addr) (cap : Nat) (l : List Sn) (xs : List Int) (w : World) (hr : RowV w q (flatS l)) (hl : l.length ≤ 5) (hok : ∀ s ∈ l, okS s) (hxl : xs.length = 5) (hxo : ∀ x ∈ xs, 0 ≤ x ∧ x ≤ 255) :
    Calls Try.prog 17 #[.slice q l.length cap, .agg (flatU xs).toArray] w fun e w' => RetL w (truthTo l xs l.length) e w' := by
  have HOK := Lib.hid hok
  have HXO := Lib.hid hxo
  have HBX := Lib.hid (fun k hk => boxU w xs k hk)
  have hb0 : Below w.heap.size w (w.alloc (.cells (flatU xs).toArray 26)) := (Below.refl _ _).alloc (Nat.le_refl _) _
  have hs0 : (w.alloc (.cells (flatU xs).toArray 26)).heap.size = w.heap.size + 1 := by simp
  clear hok hxo
  go_enter Try.func17, Try.ntmps17
  go_wp2
  generalize (w.alloc (.cells (flatU xs).toArray 26)) = W0 at *
  go_loopw [5, 10] (fun v i wr => ∃ k : Nat, k ≤ l.length ∧ i = .int .i64 k ∧ wr.ownsRow (w.heap.size + 1) 3 1 v k (flatI (truthTo l xs k)) ∧ Below (w.heap.size + 1) W0 wr) (fun _ i _ => l.length - (intOf i).toNat)
  case atStart => exact ⟨0, Nat.zero_le _, rfl, World.ownsRow_nil _ _ _ _, Below.refl _ _⟩
  case round =>
    obtain ⟨k, hk, rfl, hown, hbel⟩ := hrel
    have hbw : Below w.heap.size w wr := hb0.trans (hbel.mono (by omega))
    by_cases hlt : k < l.length
    · obtain ⟨b, off, rfl, hb, h1, h2, h3, h4⟩ := rowS_at hr hlt (Nat.le_refl _) hbw
      have hx := HXO.out _ (getD_mem xs k 0 (by omega))
      have hxc : wr.cell? ⟨w.heap.size, k, none⟩ = some (.int .u8 (xs.getD k 0)) := (hbel.cell (p := ⟨w.heap.size, k, none⟩) (by simp)).trans (HBX.out k (by omega))
      have hst := truthTo_succ l xs k
      have hg := HOK.out _ (getD_mem l k zs hlt)
      generalize (l.getD k zs) = g at h1 h2 h3 h4 hst hg
      generalize xs.getD k 0 = x at hx hxc hst
      obtain ⟨_, _, _, _, g5, g6, g7⟩ := hg
      have hsz := hbel.size
      have hwz : w.heap.size < wr.heap.size := by omega
      have HS := Lib.hid hst
      have HO := Lib.hid hown
      have HBW := Lib.hid hbw
      have HBE := Lib.hid hbel
      clear hst hown
      have hva : some wr.heap.size ≠ u5.ownBlock := fun e => by have := (HO.out.lt _ e.symm).2; omega
      have hvd : (0 : Int) < g.most - g.least + 1 := by omega
      have htm : 0 ≤ x.tmod (g.most - g.least + 1) ∧ x.tmod (g.most - g.least + 1) < g.most - g.least + 1 := ⟨Int.tmod_nonneg _ hx.1, Int.tmod_lt_of_pos _ hvd⟩
      have v1 : IntKind.i64.wrap (g.most - g.least) = g.most - g.least := IntWalk.i64_in _ ⟨by omega, by omega⟩
      have v2 : IntKind.i64.wrap (g.most - g.least + 1) = g.most - g.least + 1 := IntWalk.i64_in _ ⟨by omega, by omega⟩
      have v3 : IntKind.i64.wrap (g.least + x.tmod (g.most - g.least + 1)) = g.least + x.tmod (g.most - g.least + 1) := IntWalk.i64_in _ ⟨by omega, by omega⟩
      have v4 : IntKind.i64.wrap (x.tmod (g.most - g.least + 1)) = x.tmod (g.most - g.least + 1) := IntWalk.i64_in _ ⟨by omega, by omega⟩
      have v5 : IntKind.i64.wrap x = x := IntWalk.i64_in _ ⟨by omega, by omega⟩
      have hk0 : (0 : Int) ≤ (k : Int) := by omega
      have hk5 : (k : Int) < 5 := by omega
      have hvn : g.most - g.least + 1 ≠ 0 := by omega
      go_upto_region 5 with fail
      have A0 : Below wr.heap.size wr (wr.alloc (.cells #[.int .i64 g.half, .int .i64 g.at_, .int .i64 g.least, .int .i64 g.most] 44)) := (Below.refl _ _).alloc (Nat.le_refl _) _
      have e0 := (A0.cell (p := ⟨w.heap.size, k, none⟩) hwz).trans hxc
      have e2 : (wr.alloc (.cells #[.int .i64 g.half, .int .i64 g.at_, .int .i64 g.least, .int .i64 g.most] 44)).cell? ⟨wr.heap.size, 2, none⟩ = some (.int .i64 g.least) := by simp
      have e3 : (wr.alloc (.cells #[.int .i64 g.half, .int .i64 g.at_, .int .i64 g.least, .int .i64 g.most] 44)).cell? ⟨wr.heap.size, 3, none⟩ = some (.int .i64 g.most) := by simp
      have HO1 := Lib.hid (owns_below HO.out (Nat.le_refl _) A0)
      obtain ⟨W1, hW1⟩ : ∃ W1, wr.alloc (.cells #[.int .i64 g.half, .int .i64 g.at_, .int .i64 g.least, .int .i64 g.most] 44) = W1 := ⟨_, rfl⟩
      have hz2 : w.heap.size < W1.heap.size := by rw [← hW1]; simp; omega
      have hz3 : wr.heap.size < W1.heap.size := by rw [← hW1]; simp
      rw [hW1] at A0 e0 e2 e3 HO1 ⊢
      have HA0 := Lib.hid A0
      clear hW1 h1 h2 h3 h4 A0 hxc
      go_region_held3 (fun W => W.cell? ⟨w.heap.size, k, none⟩ = some (.int .u8 x) ∧ W.cell? ⟨wr.heap.size, 2, none⟩ = some (.int .i64 g.least) ∧ W.cell? ⟨wr.heap.size, 3, none⟩ = some (.int .i64 g.most))
        (first | exact ⟨e0, e2, e3⟩ | exact ⟨l0, l2, l3⟩ | go_keep)
        ((refine step_one _ (by rfl) _ _ 36 (by rfl) (w.heap.size + 1) 3 _ 1 8 Try.underlying36 infoI rfl (by decide) (by decide) _ k (flatI (truthTo l xs k)) (by rfl) (by first | exact HO1.out.alloc _ | exact (HO1.out.alloc _).drew) W1.heap.size 1 (by rfl) [.int .i64 (truth1 g x)] rfl ?_ ?_ (by omega) (by simp; omega) ?_; (focus (intro j u hj; match j, hj with | 0, hj => (simp at hj; subst hj; simp [truth1])));  (focus (intro u hu; simp at hu; subst hu; rfl)); intro g2 cap2 w3 hown3 hgrow hblk hg3; have A1 : Below W1.heap.size W1 (W1.alloc (.cells #[.int .i64 (g.least + x.tmod (g.most - g.least + 1))] 3)) := (Below.refl _ _).alloc (Nat.le_refl _) _; have A2 : Below W1.heap.size W1 (W1.alloc (.cells #[.int .i64 (g.least + x.tmod (g.most - g.least + 1))] 3)).drew := A1.drew; have hva0 : some w.heap.size ≠ u5.ownBlock := (fun e => by have := (HO.out.lt _ e.symm).1; omega); have l0 := (hgrow.cell_far ⟨w.heap.size, k, none⟩ (Nat.lt_of_lt_of_le hz2 A2.size) hva0).trans ((A2.cell (p := ⟨w.heap.size, k, none⟩) hz2).trans e0); have l2 := (hgrow.cell_far ⟨wr.heap.size, 2, none⟩ (Nat.lt_of_lt_of_le hz3 A2.size) hva).trans ((A2.cell (p := ⟨wr.heap.size, 2, none⟩) hz3).trans e2); have l3 := (hgrow.cell_far ⟨wr.heap.size, 3, none⟩ (Nat.lt_of_lt_of_le hz3 A2.size) hva).trans ((A2.cell (p := ⟨wr.heap.size, 3, none⟩) hz3).trans e3)))
      have hown4 : w3.ownsRow (w.heap.size + 1) 3 1 (.slice (some ⟨g2, 0, none⟩) (k + 1) cap2) (k + 1) (flatI (truthTo l xs (k + 1))) := by
        rw [HS.out, flatI_snoc]; exact hown3
      have hgb : Below (w.heap.size + 1) W1 w3 := grown_drew HO1.out (by omega) hgrow
      have hbn : Below (w.heap.size + 1) W0 w3 := (HBE.out.trans (HA0.out.mono (by omega))).trans hgb
      have HO4 := Lib.hid hown4
      have HBN := Lib.hid hbn
      clear hown3 hown4 hgb hbn
      go_wp2
      go_roundw
      case rel => exact ⟨k + 1, hlt, by go_num, HO4.out, HBN.out⟩
      case measure => simp [intOf]; omega
    · obtain rfl : k = l.length := by omega
      have hlen := truthTo_length l xs l.length
      obtain ⟨q9, c9, rfl, hr9, hc9, hq9⟩ := rowV_of_owns hown (by intro h0; rw [h0]; rfl)
      have hcap := own_cap hown
      have HR9 := Lib.hid hr9
      have HLN := Lib.hid hlen
      have HQ9 := Lib.hid hq9
      have HBW := Lib.hid hbw
      clear hown hr9 hlen hq9 hc9 hbw
      go_wp2
      go_ret
      exact ⟨q9, c9, by rw [HLN.out]; rfl, HR9.out, fun a ha => ⟨by have := (HQ9.out a ha).1; omega, (HQ9.out a ha).2⟩, by rw [HLN.out]; exact hcap, HBW.out⟩
end Go.Proofs.Ytffblmhaoekkgaa.prp

/- Chapter 7's law, the walks: made (a pile by numbers). -/
namespace Go.Proofs.Ytffblmhaoekkgaa.prp
open Go.RowKit
set_option linter.unusedSimpArgs false
set_option linter.unusedVariables false

/-- the stone that four numbers tell, above an edge -/
def made1 (edge x0 x1 x2 x3 : Int) : Sn := ⟨1 + x0 % 12, edge + 1 - x1 % 15, 1 + x2 % 9, 1 + x2 % 9 + x3 % (10 - (1 + x2 % 9))⟩
/-- the edge below stone k -/
def edgeTo (xs : List Int) : Nat → Int
  | 0 => 0
  | k + 1 => edgeTo xs k + 1 - xs.getD (1 + k * 4 + 1) 0 % 15 + (1 + xs.getD (1 + k * 4) 0 % 12)
def stoneAt (xs : List Int) (k : Nat) : Sn := made1 (edgeTo xs k) (xs.getD (1 + k * 4) 0) (xs.getD (1 + k * 4 + 1) 0) (xs.getD (1 + k * 4 + 2) 0) (xs.getD (1 + k * 4 + 3) 0)
def madeTo (xs : List Int) (k : Nat) : List Sn := (List.range k).map (stoneAt xs)
theorem madeTo_succ (xs : List Int) (k : Nat) : madeTo xs (k + 1) = madeTo xs k ++ [stoneAt xs k] := by
  unfold madeTo; rw [List.range_succ, List.map_append]; rfl
theorem madeTo_length (xs : List Int) (k : Nat) : (madeTo xs k).length = k := by simp [madeTo]
theorem edgeTo_bd (xs : List Int) (hx : ∀ x ∈ xs, 0 ≤ x ∧ x ≤ 255) (hl : xs.length = 21) : ∀ k : Nat, k ≤ 5 → -(13 * (k : Int)) ≤ edgeTo xs k ∧ edgeTo xs k ≤ 13 * k
  | 0, _ => by simp [edgeTo]
  | k + 1, h => by
    have ih := edgeTo_bd xs hx hl k (by omega)
    have h1 := hx _ (getD_mem xs (1 + k * 4 + 1) 0 (by omega))
    have h0 := hx _ (getD_mem xs (1 + k * 4) 0 (by omega))
    simp only [edgeTo]
    omega
theorem stoneAt_ok (xs : List Int) (hx : ∀ x ∈ xs, 0 ≤ x ∧ x ≤ 255) (hl : xs.length = 21) (k : Nat) (hk : k < 5) : okS (stoneAt xs k) := by
  have he := edgeTo_bd xs hx hl k (by omega)
  have h0 := hx _ (getD_mem xs (1 + k * 4) 0 (by omega))
  have h1 := hx _ (getD_mem xs (1 + k * 4 + 1) 0 (by omega))
  have h2 := hx _ (getD_mem xs (1 + k * 4 + 2) 0 (by omega))
  have h3 := hx _ (getD_mem xs (1 + k * 4 + 3) 0 (by omega))
  unfold stoneAt made1 okS
  generalize edgeTo xs k = e at *
  generalize xs.getD (1 + k * 4) 0 = x0 at *
  generalize xs.getD (1 + k * 4 + 1) 0 = x1 at *
  generalize xs.getD (1 + k * 4 + 2) 0 = x2 at *
  generalize xs.getD (1 + k * 4 + 3) 0 = x3 at *
  have a7 := Int.emod_nonneg x3 (show 10 - (1 + x2 % 9) ≠ 0 by omega)
  have a8 := Int.emod_lt_of_pos x3 (show (0 : Int) < 10 - (1 + x2 % 9) by omega)
  refine ⟨?_, ?_, ?_, ?_, ?_, ?_, ?_, ?_, ?_⟩ <;> dsimp only <;> omega
/-- the box that holds a pile's numbers -/
theorem boxH (w : World) (xs : List Int) (k : Nat) (hk : k < xs.length) : (w.alloc (.cells (flatU xs).toArray 25)).cell? ⟨w.heap.size, k, none⟩ = some (.int .u8 (xs.getD k 0)) := by
  obtain h | ⟨b, off, e, hb, hc⟩ := rowV_new w (flatU xs) 25 (0, 0)
  · have := flatU_length xs; rw [h] at this; simp at this; omega
  · injection e with e; injection e with e1 e2
    subst e1 e2
    have := hc k _ (flatU_get xs k hk)
    rw [Nat.zero_add] at this
    exact this

theorem infoS : (Try.prog.info? 44).map (fun i => (i.zero, i.size, i.bytes)) = some (some (.agg #[.int .i64 0, .int .i64 0, .int .i64 0, .int .i64 0]), 4, 32) := by kernel_rfl
/-- a new list of stones -/
def RetS (w : World) (l : List Sn) (e : Ending) (w' : World) : Prop :=
  ∃ q c, e = .returned (.slice q l.length c) ∧ RowV w' q (flatS l) ∧ (∀ a, q = some a → w.heap.size ≤ a.block ∧ a.block < w'.heap.size) ∧ l.length ≤ c ∧ Below w.heap.size w w'
set_option maxRecDepth 100000 in
set_option maxHeartbeats 4000000 in
theorem made_any (xs : List Int) (n : Nat) (w : World) (hxl : xs.length = 21) (hxo : ∀ x ∈ xs, 0 ≤ x ∧ x ≤ 255) (hn : (n : Int) = 1 + xs.getD 0 0 % 5) :
    Calls Try.prog 12 #[.agg (flatU xs).toArray, .int .i64 5] w fun e w' => RetS w (madeTo xs n) e w' := by
  have HXO := Lib.hid hxo
  have HBX := Lib.hid (fun k hk => boxH w xs k hk)
  have hb0 : Below w.heap.size w (w.alloc (.cells (flatU xs).toArray 25)) := (Below.refl _ _).alloc (Nat.le_refl _) _
  have hs0 : (w.alloc (.cells (flatU xs).toArray 25)).heap.size = w.heap.size + 1 := by simp
  have hx0 := hxo _ (getD_mem xs 0 0 (by omega))
  have c0 := boxH w xs 0 (by omega)
  generalize xs.getD 0 0 = x0 at hx0 c0 hn
  have e1 : 1 + x0 % 5 = (n : Int) := hn.symm
  have n5 : n ≤ 5 := by omega
  have n1 : 1 ≤ n := by omega
  have n5i : (n : Int) ≤ 5 := by omega
  have n0i : (0 : Int) ≤ (n : Int) := by omega
  clear hn
  clear hxo
  go_enter Try.func12, Try.ntmps12
  go_wp2
  generalize (w.alloc (.cells (flatU xs).toArray 25)) = W0 at *
  clear c0 e1 hx0
  go_loopw [5, 6, 19] (fun v ed i wr => ∃ k : Nat, k ≤ n ∧ i = .int .i64 k ∧ ed = .int .i64 (edgeTo xs k) ∧ wr.ownsRow (w.heap.size + 1) 44 4 v k (flatS (madeTo xs k)) ∧ Below (w.heap.size + 1) W0 wr) (fun _ _ i _ => n - (intOf i).toNat)
  case atStart => exact ⟨0, Nat.zero_le _, rfl, rfl, World.ownsRow_nil _ _ _ _, Below.refl _ _⟩
  case round =>
    obtain ⟨k, hk, rfl, rfl, hown, hbel⟩ := hrel
    have hbw : Below w.heap.size w wr := hb0.trans (hbel.mono (by omega))
    by_cases hlt : k < n
    · have hcell : ∀ j, j < 21 → wr.cell? ⟨w.heap.size, j, none⟩ = some (.int .u8 (xs.getD j 0)) := fun j hj => (hbel.cell (p := ⟨w.heap.size, j, none⟩) (by simp)).trans (HBX.out j (by omega))
      have y0 := HXO.out _ (getD_mem xs (1 + k * 4) 0 (by omega))
      have y1 := HXO.out _ (getD_mem xs (1 + k * 4 + 1) 0 (by omega))
      have y2 := HXO.out _ (getD_mem xs (1 + k * 4 + 2) 0 (by omega))
      have y3 := HXO.out _ (getD_mem xs (1 + k * 4 + 3) 0 (by omega))
      have k0 := hcell (1 + k * 4) (by omega)
      have k1 := hcell (1 + k * 4 + 1) (by omega)
      have k2 := hcell (1 + k * 4 + 2) (by omega)
      have k3 := hcell (1 + k * 4 + 3) (by omega)
      have he := edgeTo_bd xs HXO.out hxl k (by omega)
      have hst := madeTo_succ xs k
      have hed : edgeTo xs (k + 1) = edgeTo xs k + 1 - xs.getD (1 + k * 4 + 1) 0 % 15 + (1 + xs.getD (1 + k * 4) 0 % 12) := rfl
      have hsn : stoneAt xs k = made1 (edgeTo xs k) (xs.getD (1 + k * 4) 0) (xs.getD (1 + k * 4 + 1) 0) (xs.getD (1 + k * 4 + 2) 0) (xs.getD (1 + k * 4 + 3) 0) := rfl
      rw [hsn] at hst
      clear hcell hsn
      generalize xs.getD (1 + k * 4) 0 = x0 at y0 k0 hst hed
      generalize xs.getD (1 + k * 4 + 1) 0 = x1 at y1 k1 hst hed
      generalize xs.getD (1 + k * 4 + 2) 0 = x2 at y2 k2 hst hed
      generalize xs.getD (1 + k * 4 + 3) 0 = x3 at y3 k3 hst hed
      generalize hE : edgeTo xs k = ed at he hst hed
      have hsz := hbel.size
      have hwz : w.heap.size < wr.heap.size := by omega
      have HS := Lib.hid hst
      have HED := Lib.hid hed
      have HO := Lib.hid hown
      have HBW := Lib.hid hbw
      have HBE := Lib.hid hbel
      clear hst hown hed hE
      have m0 : 0 ≤ x2 % 9 ∧ x2 % 9 ≤ 8 := by omega
      have hvd : (0 : Int) < 10 - (1 + x2 % 9) := by omega
      have htm : 0 ≤ x3 % (10 - (1 + x2 % 9)) ∧ x3 % (10 - (1 + x2 % 9)) < 10 - (1 + x2 % 9) := ⟨Int.emod_nonneg _ (by omega), Int.emod_lt_of_pos _ hvd⟩
      have hvn : 10 - (1 + x2 % 9) ≠ 0 := by omega
      have v1 : IntKind.i64.wrap (10 - (1 + x2 % 9)) = 10 - (1 + x2 % 9) := IntWalk.i64_in _ ⟨by omega, by omega⟩
      have v3 : wrap64 (1 + x2 % 9 + x3 % (10 - (1 + x2 % 9))) = 1 + x2 % 9 + x3 % (10 - (1 + x2 % 9)) := IntWalk.wrap64_in _ ⟨by omega, by omega⟩
      have V3 := Lib.hid v3
      clear v3
      go_upto_region 7 with fail
      go_region
      have A0 : Below wr.heap.size wr ((wr.alloc (.cells #[.int .u8 x0, .int .u8 x1, .int .u8 x2, .int .u8 x3] 22)).alloc (.cells #[.int .i64 (1 + x0 % 12), .int .i64 (ed + 1 - x1 % 15), .int .i64 (1 + x2 % 9), .int .i64 (1 + x2 % 9 + x3 % (10 - (1 + x2 % 9)))] 44)).drew := (((Below.refl _ _).alloc (Nat.le_refl _) _).alloc (by simp) _).drew
      have hdr : ∀ p, ((wr.alloc (.cells #[.int .u8 x0, .int .u8 x1, .int .u8 x2, .int .u8 x3] 22)).alloc (.cells #[.int .i64 (1 + x0 % 12), .int .i64 (ed + 1 - x1 % 15), .int .i64 (1 + x2 % 9), .int .i64 (1 + x2 % 9 + x3 % (10 - (1 + x2 % 9)))] 44)).drew.cell? p = ((wr.alloc (.cells #[.int .u8 x0, .int .u8 x1, .int .u8 x2, .int .u8 x3] 22)).alloc (.cells #[.int .i64 (1 + x0 % 12), .int .i64 (ed + 1 - x1 % 15), .int .i64 (1 + x2 % 9), .int .i64 (1 + x2 % 9 + x3 % (10 - (1 + x2 % 9)))] 44)).cell? p := fun p => rfl
      have f0 : ((wr.alloc (.cells #[.int .u8 x0, .int .u8 x1, .int .u8 x2, .int .u8 x3] 22)).alloc (.cells #[.int .i64 (1 + x0 % 12), .int .i64 (ed + 1 - x1 % 15), .int .i64 (1 + x2 % 9), .int .i64 (1 + x2 % 9 + x3 % (10 - (1 + x2 % 9)))] 44)).drew.cell? ⟨wr.heap.size + 1, 0, none⟩ = some (.int .i64 (1 + x0 % 12)) := by rw [hdr]; simp
      have f1 : ((wr.alloc (.cells #[.int .u8 x0, .int .u8 x1, .int .u8 x2, .int .u8 x3] 22)).alloc (.cells #[.int .i64 (1 + x0 % 12), .int .i64 (ed + 1 - x1 % 15), .int .i64 (1 + x2 % 9), .int .i64 (1 + x2 % 9 + x3 % (10 - (1 + x2 % 9)))] 44)).drew.cell? ⟨wr.heap.size + 1, 1, none⟩ = some (.int .i64 (ed + 1 - x1 % 15)) := by rw [hdr]; simp
      have f2 : ((wr.alloc (.cells #[.int .u8 x0, .int .u8 x1, .int .u8 x2, .int .u8 x3] 22)).alloc (.cells #[.int .i64 (1 + x0 % 12), .int .i64 (ed + 1 - x1 % 15), .int .i64 (1 + x2 % 9), .int .i64 (1 + x2 % 9 + x3 % (10 - (1 + x2 % 9)))] 44)).drew.cell? ⟨wr.heap.size + 1, 2, none⟩ = some (.int .i64 (1 + x2 % 9)) := by rw [hdr]; simp
      have f3 : ((wr.alloc (.cells #[.int .u8 x0, .int .u8 x1, .int .u8 x2, .int .u8 x3] 22)).alloc (.cells #[.int .i64 (1 + x0 % 12), .int .i64 (ed + 1 - x1 % 15), .int .i64 (1 + x2 % 9), .int .i64 (1 + x2 % 9 + x3 % (10 - (1 + x2 % 9)))] 44)).drew.cell? ⟨wr.heap.size + 1, 3, none⟩ = some (.int .i64 (1 + x2 % 9 + x3 % (10 - (1 + x2 % 9)))) := by rw [hdr]; simp
      have hz1 : ((wr.alloc (.cells #[.int .u8 x0, .int .u8 x1, .int .u8 x2, .int .u8 x3] 22)).alloc (.cells #[.int .i64 (1 + x0 % 12), .int .i64 (ed + 1 - x1 % 15), .int .i64 (1 + x2 % 9), .int .i64 (1 + x2 % 9 + x3 % (10 - (1 + x2 % 9)))] 44)).drew.heap.size = wr.heap.size + 2 := by simp
      clear hdr k0 k1 k2 k3
      generalize ((wr.alloc (.cells #[.int .u8 x0, .int .u8 x1, .int .u8 x2, .int .u8 x3] 22)).alloc (.cells #[.int .i64 (1 + x0 % 12), .int .i64 (ed + 1 - x1 % 15), .int .i64 (1 + x2 % 9), .int .i64 (1 + x2 % 9 + x3 % (10 - (1 + x2 % 9)))] 44)).drew = W1 at *
      have HO1 := Lib.hid (owns_below HO.out (Nat.le_refl _) A0)
      have HA0 := Lib.hid A0
      have hzw : wr.heap.size + 1 < W1.heap.size := by omega
      have hzb : w.heap.size + 1 ≤ W1.heap.size := by omega
      have HZ1 := Lib.hid hz1
      clear A0 hz1
      generalize hM : 1 + x2 % 9 + x3 % (10 - (1 + x2 % 9)) = mo at *
      generalize hL : 1 + x2 % 9 = lo at *
      have hvb : some (wr.heap.size + 1) ≠ u5.ownBlock := fun e => by have := (HO.out.lt _ e.symm).2; omega
      go_wp2_with (at_builtin; refine app_one _ rfl (.tmp 52) (.tmp 54) 27 rfl (w.heap.size + 1) 44 _ 4 32 Try.underlying27 infoS rfl (by decide) (by decide) u5 k (flatS (madeTo xs k)) rfl (HO1.out.alloc _) W1.heap.size 1 rfl [.int .i64 (1 + x0 % 12), .int .i64 (ed + 1 - x1 % 15), .int .i64 lo, .int .i64 mo] rfl ?_ ?_ (by omega) (by simp; omega) ?_; (focus (intro j u hj; match j, hj with | 0, hj => (simp at hj; subst hj; simp) | 1, hj => (simp at hj; subst hj; simp) | 2, hj => (simp at hj; subst hj; simp) | 3, hj => (simp at hj; subst hj; simp))); (focus (intro u hu; simp at hu; rcases hu with rfl | rfl | rfl | rfl <;> rfl)); intro v' w3 hown3 hgrow hblk; have B0 : Below W1.heap.size W1 (W1.alloc (.cells #[.int .i64 (1 + x0 % 12), .int .i64 (ed + 1 - x1 % 15), .int .i64 lo, .int .i64 mo] 44)) := (Below.refl _ _).alloc (Nat.le_refl _) _; have l0 := (hgrow.cell_far ⟨wr.heap.size + 1, 0, none⟩ (Nat.lt_of_lt_of_le hzw B0.size) hvb).trans ((B0.cell (p := ⟨wr.heap.size + 1, 0, none⟩) hzw).trans f0); have l1 := (hgrow.cell_far ⟨wr.heap.size + 1, 1, none⟩ (Nat.lt_of_lt_of_le hzw B0.size) hvb).trans ((B0.cell (p := ⟨wr.heap.size + 1, 1, none⟩) hzw).trans f1))
      have hrow : w3.ownsRow (w.heap.size + 1) 44 4 v' (k + 1) (flatS (madeTo xs (k + 1))) := by
        have e : made1 ed x0 x1 x2 x3 = ⟨1 + x0 % 12, ed + 1 - x1 % 15, lo, mo⟩ := by simp only [made1, hL, hM]
        rw [HS.out, e, flatS_snoc]
        exact hown3
      have hgb : Below (w.heap.size + 1) W1 w3 := grown_al HO1.out hzb hgrow
      have hbn : Below (w.heap.size + 1) W0 w3 := (HBE.out.trans (HA0.out.mono (by omega))).trans hgb
      exact ⟨⟨k + 1, hlt, by go_num, by rw [HED.out], hrow, hbn⟩, by simp [intOf]; omega⟩
    · obtain rfl : k = n := by omega
      have hlen := madeTo_length xs k
      obtain ⟨q9, c9, rfl, hr9, hc9, hq9⟩ := rowV_of_owns hown (by intro h0; rw [h0]; rfl)
      have hcap := own_cap hown
      have HR9 := Lib.hid hr9
      have HLN := Lib.hid hlen
      have HQ9 := Lib.hid hq9
      have HBW := Lib.hid hbw
      clear hown hr9 hlen hq9 hc9 hbw
      go_wp2
      go_ret
      exact ⟨q9, c9, by rw [HLN.out]; rfl, HR9.out, fun a ha => ⟨by have := (HQ9.out a ha).1; omega, (HQ9.out a ha).2⟩, by rw [HLN.out]; exact hcap, HBW.out⟩
end Go.Proofs.Ytffblmhaoekkgaa.prp

/- Chapter 7, the walks: greatest common divisors (the program's and the law's), below. -/
namespace Go.Proofs.Ytffblmhaoekkgaa.prp
open Go.RowKit
set_option linter.unusedSimpArgs false
set_option linter.unusedVariables false

set_option maxRecDepth 100000 in
set_option maxHeartbeats 4000000 in
theorem commonFactor_any (a b : Nat) (w : World) (ha : a < 4611686018427387904) (hb : b < 4611686018427387904) :
    Calls Try.prog 101 #[.int .i64 a, .int .i64 b] w fun e w' => e = .returned (.int .i64 (Nat.gcd a b)) ∧ Below w.heap.size w w' := by
  go_enter Try.func101, Try.ntmps101
  go_wp2
  go_loopw [0, 1] (fun x y wr => ∃ c d : Nat, x = .int .i64 c ∧ y = .int .i64 d ∧ Nat.gcd c d = Nat.gcd a b ∧ c < 4611686018427387904 ∧ d < 4611686018427387904 ∧ Below w.heap.size w wr) (fun _ y _ => (intOf y).toNat)
  case atStart => exact ⟨a, b, rfl, rfl, rfl, ha, hb, Below.refl _ _⟩
  case round =>
    obtain ⟨c, d, rfl, rfl, hg, hc, hd, hbel⟩ := hrel
    by_cases h0 : d = 0
    · subst h0
      rw [Nat.gcd_zero_right] at hg
      subst hg
      go_wp2
      go_ret
      exact ⟨rfl, hbel⟩
    · have hne : ((d : Int) != 0) = true := by simp; omega
      have hne2 : ((d : Int) == 0) = false := by simp; omega
      have hd1 : (d : Int) ≠ 0 := by omega
      have e1 : (c : Int) % (d : Int) = ((c % d : Nat) : Int) := by simp
      have hlt : c % d < d := Nat.mod_lt _ (by omega)
      have hst : Nat.gcd d (c % d) = Nat.gcd a b := by rw [← hg, Nat.gcd_comm d, ← Nat.gcd_rec d c, Nat.gcd_comm]
      have HS := Lib.hid hst
      have HG := Lib.hid hg
      have HE1 := Lib.hid e1
      clear hst hg e1
      go_upto_region 2 with fail
      go_region
      all_goals go_wp2
      all_goals exact ⟨⟨d, c % d, rfl, by rw [HE1.out], HS.out, hd, by omega, hbel.drew⟩, by rw [HE1.out]; simp only [intOf]; omega⟩

/-- the law's greatest common divisor -/
theorem common_any (a b : Int) (w : World) (ha : -4611686018427387904 < a ∧ a < 4611686018427387904) (hb : -4611686018427387904 < b ∧ b < 4611686018427387904) :
    Calls Try.prog 70 #[.int .i64 a, .int .i64 b] w fun e w' => e = .returned (.int .i64 (Int.gcd a b)) ∧ Below w.heap.size w w' := by
  have v1 : IntKind.i64.wrap (-a) = -a := IntWalk.i64_in _ ⟨by omega, by omega⟩
  have v2 : IntKind.i64.wrap (-b) = -b := IntWalk.i64_in _ ⟨by omega, by omega⟩
  go_enter Try.func70, Try.ntmps70
  go_upto_region 2 with fail
  all_goals
    go_loopw [0, 1] (fun x y wr => ∃ c d : Nat, x = .int .i64 c ∧ y = .int .i64 d ∧ Nat.gcd c d = Int.gcd a b ∧ c < 4611686018427387904 ∧ d < 4611686018427387904 ∧ Below w.heap.size w wr) (fun _ y _ => (intOf y).toNat)
    case atStart => exact ⟨a.natAbs, b.natAbs, by congr 1; omega, by congr 1; omega, rfl, by omega, by omega, Below.refl _ _⟩
    case round =>
      obtain ⟨c, d, rfl, rfl, hg, hc, hd, hbel⟩ := hrel
      by_cases h0 : d = 0
      · subst h0
        rw [Nat.gcd_zero_right] at hg
        have HG := Lib.hid hg
        clear hg
        go_wp2
        go_ret
        exact ⟨by rw [← HG.out]; rfl, hbel⟩
      · have hne : ((d : Int) != 0) = true := by simp; omega
        have hne2 : ((d : Int) == 0) = false := by simp; omega
        have hd1 : (d : Int) ≠ 0 := by omega
        have e1 : (c : Int) % (d : Int) = ((c % d : Nat) : Int) := by simp
        have hlt : c % d < d := Nat.mod_lt _ (by omega)
        have hst : Nat.gcd d (c % d) = Int.gcd a b := by rw [← hg, Nat.gcd_comm d, ← Nat.gcd_rec d c, Nat.gcd_comm]
        have HS := Lib.hid hst
        have HE1 := Lib.hid e1
        clear hst hg e1
        go_upto_region 3 with fail
        go_region
        all_goals go_wp2
        all_goals exact ⟨⟨d, c % d, rfl, by rw [HE1.out], HS.out, hd, by omega, hbel.drew⟩, by rw [HE1.out]; simp only [intOf]; omega⟩

theorem box2 (W : World) (x y : Int) (t : TypeId) : (W.alloc (.cells #[.int .i64 x, .int .i64 y] t)).cell? ⟨W.heap.size, 0, none⟩ = some (.int .i64 x) ∧ (W.alloc (.cells #[.int .i64 x, .int .i64 y] t)).cell? ⟨W.heap.size, 1, none⟩ = some (.int .i64 y) := ⟨by simp, by simp⟩
/-- a fraction -/
def frV (n d : Int) : Value := .agg #[.int .i64 n, .int .i64 d]
/-- the law's below, with numbers whose products are no overflow -/
theorem below_any (a b c d : Int) (w : World) (h1 : -4611686018427387904 < a * d ∧ a * d < 4611686018427387904) (h2 : -4611686018427387904 < c * b ∧ c * b < 4611686018427387904) :
    Calls Try.prog 31 #[frV a b, frV c d] w fun e w' => e = .returned (.bool (decide (a * d < c * b))) ∧ Below w.heap.size w w' := by
  have v1 : IntKind.i64.wrap (a * d) = a * d := IntWalk.i64_in _ ⟨by omega, by omega⟩
  have v2 : IntKind.i64.wrap (c * b) = c * b := IntWalk.i64_in _ ⟨by omega, by omega⟩
  unfold frV
  go_enter Try.func31, Try.ntmps31
  go_wp2
  go_ret
  exact ⟨rfl, ((Below.refl _ _).alloc (Nat.le_refl _) _).alloc (by simp) _⟩
/-- the law's frac -/
theorem frac_any (a b : Int) (w : World) :
    Calls Try.prog 32 #[.int .i64 a, .int .i64 b] w fun e w' => e = .returned (frV a b) ∧ Below w.heap.size w w' := by
  go_enter Try.func32, Try.ntmps32
  go_wp2
  refine bodyPost_ret (by simp [results, Try.results32, go_sem]; try rfl) rfl ?_
  exact ⟨rfl, (Below.refl _ _).alloc (Nat.le_refl _) _⟩
end Go.Proofs.Ytffblmhaoekkgaa.prp

/- Chapter 7's law, the walks: ratio (lowest terms). -/
namespace Go.Proofs.Ytffblmhaoekkgaa.prp
open Go.RowKit
set_option linter.unusedSimpArgs false
set_option linter.unusedVariables false

def Cell2 (W : World) (B : Nat) (a b : Value) : Prop :=
  B < W.heap.size ∧ W.cell? ⟨B, 0, none⟩ = some a ∧ W.cell? ⟨B, 1, none⟩ = some b ∧ W.frozen? ⟨B, 0, none⟩ = false ∧ W.frozen? ⟨B, 1, none⟩ = false
theorem Cell2.below {W W' : World} {B : Nat} {a b : Value} (h : Cell2 W B a b) {N : Nat} (hN : B < N) (hb : Below N W W') : Cell2 W' B a b := by
  obtain ⟨h0, h1, h2, h4, h5⟩ := h
  exact ⟨Nat.lt_of_lt_of_le h0 hb.size, (hb.cell (p := ⟨B, 0, none⟩) hN).trans h1, (hb.cell (p := ⟨B, 1, none⟩) hN).trans h2, (hb.frozen (p := ⟨B, 0, none⟩) hN).trans h4, (hb.frozen (p := ⟨B, 1, none⟩) hN).trans h5⟩
theorem Cell2.set {W : World} {B : Nat} {a b : Value} (h : Cell2 W B a b) (x y : Value) : Cell2 ((W.setCell ⟨B, 0, none⟩ x).setCell ⟨B, 1, none⟩ y) B x y := by
  obtain ⟨h0, h1, h2, h4, h5⟩ := h
  have n01 : (⟨B, 0, none⟩ : Addr) ≠ ⟨B, 1, none⟩ := by simp
  refine ⟨by simp only [World.size_setCell]; exact h0, ?_, ?_, ?_, ?_⟩
  · rw [World.cell?_setCell_other (h := n01.symm), World.cell?_setCell_same (h := h1)]
  · rw [World.cell?_setCell_same (u := b)]
    rw [World.cell?_setCell_other (h := n01), h2]
  · simpa using h4
  · simpa using h5

theorem Cell2.new (w : World) (B : Nat) (hB : w.heap.size = B) (a b : Value) (t : TypeId) (ha : a.oneCell' = true := by rfl) (hb : b.oneCell' = true := by rfl) : Cell2 (w.alloc (.cells #[a, b] t)) B a b := by
  subst hB
  exact ⟨by simp, by simp, by simp, by simp, by simp⟩
set_option maxRecDepth 100000 in
set_option maxHeartbeats 1000000 in
/-- the law's ratio: lowest terms -/
theorem ratio_any (a b : Int) (w : World) (ha : -4611686018427387904 < a ∧ a < 4611686018427387904) (hb : 0 < b ∧ b < 4611686018427387904) :
    Calls Try.prog 29 #[.int .i64 a, .int .i64 b] w fun e w' => e = .returned (frV (a.tdiv (Int.gcd a b)) (b.tdiv (Int.gcd a b))) ∧ Below w.heap.size w w' := by
  have HC := Lib.hid (fun W => common_any a b W ha ⟨by omega, hb.2⟩)
  have hf : ∀ x y W, Calls Try.prog 32 #[.int .i64 x, .int .i64 y] W fun e w' => e = .returned (.agg #[.int .i64 x, .int .i64 y]) ∧ Below W.heap.size W w' := fun x y W => frac_any x y W
  have HF := Lib.hid hf
  clear hf
  have hg : 0 < Int.gcd a b := Int.gcd_pos_of_ne_zero_right _ (by omega)
  have hgb : (Int.gcd a b : Int) ≤ b := Int.le_of_dvd hb.1 (Int.gcd_dvd_right ..)
  generalize Int.gcd a b = g at *
  have hg0 : (g : Int) ≠ 0 := by omega
  have hgn : ¬ g = 0 := by omega
  have hg1 : ((g : Int) == 0) = false := by simp; omega
  have q1 : -4611686018427387904 < a.tdiv g ∧ a.tdiv g < 4611686018427387904 := by
    have := Int.natAbs_tdiv_le_natAbs a g
    omega
  have q2 : -4611686018427387904 < b.tdiv g ∧ b.tdiv g < 4611686018427387904 := by
    have := Int.natAbs_tdiv_le_natAbs b g
    omega
  have v1 : IntKind.i64.wrap (a.tdiv g) = a.tdiv g := IntWalk.i64_in _ ⟨by omega, by omega⟩
  have v2 : IntKind.i64.wrap (b.tdiv g) = b.tdiv g := IntWalk.i64_in _ ⟨by omega, by omega⟩
  go_enter Try.func29, Try.ntmps29
  go_upto_region 2 with (go_at_call 70; refine (HC.out _).mono ?_; rintro e w1 ⟨rfl, hb1⟩)
  have hcc : Cell2 w1 w.heap.size (.int .i64 0) (.int .i64 0) := (Cell2.new w w.heap.size rfl (.int .i64 0) (.int .i64 0) 51).below (N := w.heap.size + 1) (by omega) (by simpa using hb1)
  have hbw : Below w.heap.size w w1 := ((Below.refl _ _).alloc (Nat.le_refl _) _).on hb1
  have HCC := Lib.hid hcc
  have HBW := Lib.hid hbw
  have hz := hcc.1
  clear hcc hbw
  go_region_with
    (go_at_call 32; refine (HF.out _ _ _).mono ?_; rintro e w2 ⟨rfl, hb2'⟩; have hb2 : Below w1.heap.size w1 w2 := (((Below.refl _ _).drew).on hb2'); have HC2 := Lib.hid (HCC.out.below hz hb2); obtain ⟨y0, y1, y2, y3, y4⟩ := HC2.out)
  go_wp2
  obtain ⟨k0, k1, k2, _, _⟩ := HC2.out.set (.int .i64 (a.tdiv g)) (.int .i64 (b.tdiv g))
  have hbn : Below w.heap.size w ((w2.setCell ⟨w.heap.size, 0, none⟩ (.int .i64 (a.tdiv g))).setCell ⟨w.heap.size, 1, none⟩ (.int .i64 (b.tdiv g))) :=
    ((HBW.out.trans (hb2.mono (by omega))).setCell (p := ⟨w.heap.size, 0, none⟩) (Nat.le_refl _) _).setCell (p := ⟨w.heap.size, 1, none⟩) (Nat.le_refl _) _
  generalize hW : ((w2.setCell ⟨w.heap.size, 0, none⟩ (.int .i64 (a.tdiv g))).setCell ⟨w.heap.size, 1, none⟩ (.int .i64 (b.tdiv g))) = W at *
  refine bodyPost_ret (by simp [results, Try.results29, go_sem, k1, k2]; try rfl) rfl ?_
  exact ⟨rfl, hbn⟩
end Go.Proofs.Ytffblmhaoekkgaa.prp

/- Chapter 7's law, the walks: fair. -/
namespace Go.Proofs.Ytffblmhaoekkgaa.prp
open Go.RowKit
set_option linter.unusedSimpArgs false
set_option linter.unusedVariables false

set_option maxRecDepth 100000 in
set_option maxHeartbeats 1000000 in
/-- the law's fair, of small numbers -/
theorem fair_any (n d : Int) (w : World) (hd : 0 < d) (hd2 : d < 33554432) (hn : -68719476736 < n) (hn2 : n < 68719476736) :
    Calls Try.prog 27 #[.agg #[.int .i64 n, .int .i64 d]] w fun e w' => e = .returned (.bool (decide (Int.gcd n d = 1))) ∧ Below w.heap.size w w' := by
  have HC := Lib.hid (fun W => common_any n d W ⟨by omega, by omega⟩ ⟨by omega, by omega⟩)
  have hbx := box2 w n d 51
  have hb0 : Below w.heap.size w (w.alloc (.cells #[.int .i64 n, .int .i64 d] 51)) := (Below.refl _ _).alloc (Nat.le_refl _) _
  go_enter Try.func27, Try.ntmps27
  go_wp2_with (go_at_call 70; refine (HC.out _).mono ?_; rintro e w1 ⟨rfl, hb1⟩)
  have e : (((Int.gcd n d : Nat) : Int) == 1) = decide (Int.gcd n d = 1) := by
    by_cases h : Int.gcd n d = 1
    · simp [h]
    · rw [decide_eq_false h, beq_eq_false_iff_ne]; omega
  rw [← e]
  go_ret
  exact ⟨rfl, hb0.on hb1⟩
end Go.Proofs.Ytffblmhaoekkgaa.prp

/- Chapter 7, the walks: the program's fraction. -/
namespace Go.Proofs.Ytffblmhaoekkgaa.prp
open Go.RowKit
set_option linter.unusedSimpArgs false
set_option linter.unusedVariables false

/-- lowest terms -/
def lowN (a b : Int) : Int := a.tdiv (Int.gcd a b)
def lowD (a b : Int) : Int := b.tdiv (Int.gcd a b)
set_option maxRecDepth 100000 in
set_option maxHeartbeats 2000000 in
/-- the program's fraction: lowest terms -/
theorem fraction_any (a b : Int) (w : World) (ha : -4611686018427387904 < a ∧ a < 4611686018427387904) (hb : 0 < b ∧ b < 4611686018427387904) :
    Calls Try.prog 95 #[.int .i64 a, .int .i64 b] w fun e w' => e = .returned (frV (lowN a b) (lowD a b)) ∧ Below w.heap.size w w' := by
  have hc : ∀ (x y : Int) (W : World), x = (a.natAbs : Int) → y = b → Calls Try.prog 101 #[.int .i64 x, .int .i64 y] W fun e w' => e = .returned (.int .i64 (Int.gcd a b)) ∧ Below W.heap.size W w' := by
    rintro x y W rfl rfl
    have := commonFactor_any a.natAbs y.natAbs W (by omega) (by omega)
    rw [show ((y.natAbs : Nat) : Int) = y by omega] at this
    exact this
  have HC := Lib.hid hc
  clear hc
  have hg : 0 < Int.gcd a b := Int.gcd_pos_of_ne_zero_right _ (by omega)
  have hgb : (Int.gcd a b : Int) ≤ b := Int.le_of_dvd hb.1 (Int.gcd_dvd_right ..)
  unfold lowN lowD
  generalize Int.gcd a b = g at *
  have hg0 : (g : Int) ≠ 0 := by omega
  have hgn : ¬ g = 0 := by omega
  have hg1 : ((g : Int) == 0) = false := by simp; omega
  have q1 : -4611686018427387904 < a.tdiv g ∧ a.tdiv g < 4611686018427387904 := by
    have := Int.natAbs_tdiv_le_natAbs a g
    omega
  have q2 : -4611686018427387904 < b.tdiv g ∧ b.tdiv g < 4611686018427387904 := by
    have := Int.natAbs_tdiv_le_natAbs b g
    omega
  have v0 : IntKind.i64.wrap (-a) = -a := IntWalk.i64_in _ ⟨by omega, by omega⟩
  have v1 : IntKind.i64.wrap (a.tdiv g) = a.tdiv g := IntWalk.i64_in _ ⟨by omega, by omega⟩
  have v2 : IntKind.i64.wrap (b.tdiv g) = b.tdiv g := IntWalk.i64_in _ ⟨by omega, by omega⟩
  go_enter Try.func95, Try.ntmps95
  go_upto_region 2 with (go_at_call 101; refine (HC.out _ _ _ (by omega) rfl).mono ?_; rintro e w1 ⟨rfl, hb1⟩)
  have hcc : Cell2 w1 w.heap.size (.int .i64 0) (.int .i64 0) := (Cell2.new w w.heap.size rfl (.int .i64 0) (.int .i64 0) 51).below (N := w.heap.size + 1) (by omega) (by simpa using hb1)
  have hbw : Below w.heap.size w w1 := ((Below.refl _ _).alloc (Nat.le_refl _) _).on hb1
  have HC2 := Lib.hid hcc
  have HBW := Lib.hid hbw
  obtain ⟨y0, y1, y2, y3, y4⟩ := hcc
  clear hbw
  go_region
  go_wp2
  all_goals
    obtain ⟨k0, k1, k2, _, _⟩ := HC2.out.set (.int .i64 (a.tdiv g)) (.int .i64 (b.tdiv g))
    have hbn : Below w.heap.size w (((w1.setCell ⟨w.heap.size, 0, none⟩ (.int .i64 (a.tdiv g))).setCell ⟨w.heap.size, 1, none⟩ (.int .i64 (b.tdiv g))).drew) :=
      ((HBW.out.setCell (p := ⟨w.heap.size, 0, none⟩) (Nat.le_refl _) _).setCell (p := ⟨w.heap.size, 1, none⟩) (Nat.le_refl _) _).drew
    generalize hW : ((w1.setCell ⟨w.heap.size, 0, none⟩ (.int .i64 (a.tdiv g))).setCell ⟨w.heap.size, 1, none⟩ (.int .i64 (b.tdiv g))) = W at *
    refine bodyPost_ret (by simp [results, Try.results95, go_sem, k1, k2]; try rfl) rfl ?_
    exact ⟨rfl, hbn⟩
end Go.Proofs.Ytffblmhaoekkgaa.prp

/- Chapter 7, the walks: plus and minus of fractions. -/
namespace Go.Proofs.Ytffblmhaoekkgaa.prp
open Go.RowKit
set_option linter.unusedSimpArgs false
set_option linter.unusedVariables false

/-- numbers whose products leave no int -/
def smallP (a b c d : Int) : Prop := (-2305843009213693952 < a * d ∧ a * d < 2305843009213693952) ∧ (-2305843009213693952 < c * b ∧ c * b < 2305843009213693952) ∧ 0 < b * d ∧ b * d < 4611686018427387904
set_option maxRecDepth 100000 in
set_option maxHeartbeats 2000000 in
theorem plus_any (a b c d : Int) (w : World) (h : smallP a b c d) :
    Calls Try.prog 84 #[.agg #[.int .i64 a, .int .i64 b], .agg #[.int .i64 c, .int .i64 d]] w fun e w' => e = .returned (frV (lowN (a * d + c * b) (b * d)) (lowD (a * d + c * b) (b * d))) ∧ Below w.heap.size w w' := by
  obtain ⟨h1, h2, h3, h4⟩ := h
  have hf : ∀ W, Calls Try.prog 95 #[.int .i64 (a * d + c * b), .int .i64 (b * d)] W fun e w' => e = .returned (.agg #[.int .i64 (lowN (a * d + c * b) (b * d)), .int .i64 (lowD (a * d + c * b) (b * d))]) ∧ Below W.heap.size W w' := fun W => fraction_any _ _ W ⟨by omega, by omega⟩ ⟨h3, h4⟩
  have v1 : IntKind.i64.wrap (a * d) = a * d := IntWalk.i64_in _ ⟨by omega, by omega⟩
  have v2 : IntKind.i64.wrap (c * b) = c * b := IntWalk.i64_in _ ⟨by omega, by omega⟩
  have v3 : IntKind.i64.wrap (b * d) = b * d := IntWalk.i64_in _ ⟨by omega, by omega⟩
  have v4 : IntKind.i64.wrap (a * d + c * b) = a * d + c * b := IntWalk.i64_in _ ⟨by omega, by omega⟩
  have HF := Lib.hid hf
  clear hf
  generalize hx : a * d = x at *
  generalize hy : c * b = y at *
  generalize hz : b * d = z at *
  generalize hn : lowN (x + y) z = p at *
  generalize hm : lowD (x + y) z = q at *
  have hcc : ∀ (w1 : World), Below (w.heap.size + 3) (((w.alloc (.cells #[.int .i64 a, .int .i64 b] 51)).alloc (.cells #[.int .i64 c, .int .i64 d] 51)).alloc (.cells #[.int .i64 0, .int .i64 0] 51)) w1 → Cell2 w1 (w.heap.size + 1 + 1) (.int .i64 0) (.int .i64 0) ∧ Below w.heap.size w w1 := fun w1 hb => ⟨(Cell2.new ((w.alloc (.cells #[.int .i64 a, .int .i64 b] 51)).alloc (.cells #[.int .i64 c, .int .i64 d] 51)) (w.heap.size + 1 + 1) (by simp) (.int .i64 0) (.int .i64 0) 51).below (N := w.heap.size + 3) (by omega) hb, ((((Below.refl _ _).alloc (Nat.le_refl _) _).alloc (by simp) _).alloc (by simp; omega) _).trans (hb.mono (by omega))⟩
  have HCC := Lib.hid hcc
  clear hcc
  go_enter Try.func84, Try.ntmps84
  go_wp2_with (go_at_call 95; refine (HF.out _).mono ?_; rintro e w1 ⟨rfl, hb1⟩; obtain ⟨h5, h6⟩ := HCC.out _ (by simpa using hb1); have H5 := Lib.hid h5; have H6 := Lib.hid h6; obtain ⟨y0, y1, y2, y3, y4⟩ := h5)
  obtain ⟨k0, k1, k2, _, _⟩ := H5.out.set (.int .i64 p) (.int .i64 q)
  have hbn : Below w.heap.size w ((w1.setCell ⟨w.heap.size + 1 + 1, 0, none⟩ (.int .i64 p)).setCell ⟨w.heap.size + 1 + 1, 1, none⟩ (.int .i64 q)) :=
    (H6.out.setCell (p := ⟨w.heap.size + 1 + 1, 0, none⟩) (by simp; omega) _).setCell (p := ⟨w.heap.size + 1 + 1, 1, none⟩) (by simp; omega) _
  generalize hW : ((w1.setCell ⟨w.heap.size + 1 + 1, 0, none⟩ (.int .i64 p)).setCell ⟨w.heap.size + 1 + 1, 1, none⟩ (.int .i64 q)) = W at *
  refine bodyPost_ret (by simp [results, Try.results84, go_sem, k1, k2]; try rfl) rfl ?_
  exact ⟨rfl, hbn⟩
end Go.Proofs.Ytffblmhaoekkgaa.prp

/- Chapter 7, the walks: minus, parts of fractions. -/
namespace Go.Proofs.Ytffblmhaoekkgaa.prp
open Go.RowKit
set_option linter.unusedSimpArgs false
set_option linter.unusedVariables false

set_option maxRecDepth 100000 in
set_option maxHeartbeats 2000000 in
theorem minus_any (a b c d : Int) (w : World) (h : smallP a b (-c) d) (hc : -4611686018427387904 < c ∧ c < 4611686018427387904) :
    Calls Try.prog 76 #[.agg #[.int .i64 a, .int .i64 b], .agg #[.int .i64 c, .int .i64 d]] w fun e w' => e = .returned (frV (lowN (a * d + -c * b) (b * d)) (lowD (a * d + -c * b) (b * d))) ∧ Below w.heap.size w w' := by
  have hf : ∀ W, Calls Try.prog 84 #[.agg #[.int .i64 a, .int .i64 b], .agg #[.int .i64 (-c), .int .i64 d]] W fun e w' => e = .returned (.agg #[.int .i64 (lowN (a * d + -c * b) (b * d)), .int .i64 (lowD (a * d + -c * b) (b * d))]) ∧ Below W.heap.size W w' := fun W => plus_any _ _ _ _ W h
  have v1 : IntKind.i64.wrap (-c) = -c := IntWalk.i64_in _ ⟨by omega, by omega⟩
  generalize hn : lowN (a * d + -c * b) (b * d) = p at *
  generalize hm : lowD (a * d + -c * b) (b * d) = q at *
  have HF := Lib.hid hf
  clear hf h hn hm
  have hcc : ∀ (w1 : World), Below (w.heap.size + 3) (((w.alloc (.cells #[.int .i64 a, .int .i64 b] 51)).alloc (.cells #[.int .i64 c, .int .i64 d] 51)).alloc (.cells #[.int .i64 0, .int .i64 0] 51)) w1 → Cell2 w1 (w.heap.size + 1 + 1) (.int .i64 0) (.int .i64 0) ∧ Below w.heap.size w w1 := fun w1 hb => ⟨(Cell2.new ((w.alloc (.cells #[.int .i64 a, .int .i64 b] 51)).alloc (.cells #[.int .i64 c, .int .i64 d] 51)) (w.heap.size + 1 + 1) (by simp) (.int .i64 0) (.int .i64 0) 51).below (N := w.heap.size + 3) (by omega) hb, ((((Below.refl _ _).alloc (Nat.le_refl _) _).alloc (by simp) _).alloc (by simp; omega) _).trans (hb.mono (by omega))⟩
  have HCC := Lib.hid hcc
  clear hcc
  go_enter Try.func76, Try.ntmps76
  go_wp2_with (go_at_call 84; refine (HF.out _).mono ?_; rintro e w1 ⟨rfl, hb1⟩; obtain ⟨h5, h6⟩ := HCC.out _ (by simpa using hb1); have H5 := Lib.hid h5; have H6 := Lib.hid h6; obtain ⟨y0, y1, y2, y3, y4⟩ := h5)
  obtain ⟨k0, k1, k2, _, _⟩ := H5.out.set (.int .i64 p) (.int .i64 q)
  have hbn : Below w.heap.size w ((w1.setCell ⟨w.heap.size + 1 + 1, 0, none⟩ (.int .i64 p)).setCell ⟨w.heap.size + 1 + 1, 1, none⟩ (.int .i64 q)) :=
    (H6.out.setCell (p := ⟨w.heap.size + 1 + 1, 0, none⟩) (by simp; omega) _).setCell (p := ⟨w.heap.size + 1 + 1, 1, none⟩) (by simp; omega) _
  generalize hW : ((w1.setCell ⟨w.heap.size + 1 + 1, 0, none⟩ (.int .i64 p)).setCell ⟨w.heap.size + 1 + 1, 1, none⟩ (.int .i64 q)) = W at *
  refine bodyPost_ret (by simp [results, Try.results76, go_sem, k1, k2]; try rfl) rfl ?_
  exact ⟨rfl, hbn⟩
end Go.Proofs.Ytffblmhaoekkgaa.prp

/- Chapter 7, the walks: parts of fractions, below. -/
namespace Go.Proofs.Ytffblmhaoekkgaa.prp
open Go.RowKit
set_option linter.unusedSimpArgs false
set_option linter.unusedVariables false

set_option maxRecDepth 100000 in
set_option maxHeartbeats 2000000 in
theorem parts_any (a b : Int) (w : World) (ha : -4611686018427387904 < a ∧ a < 4611686018427387904) (hb : 0 < b ∧ b < 4611686018427387904) :
    Calls Try.prog 94 #[.agg #[.int .i64 a, .int .i64 b]] w fun e w' => e = .returned (.tuple #[.int .i64 (a / b), .int .i64 (a % b)]) ∧ Below w.heap.size w w' := by
  have hm : a.tmod b = a % b ∧ a.tdiv b = a / b ∨ a.tmod b < 0 ∧ a.tmod b + b = a % b ∧ a.tdiv b - 1 = a / b := by
    have r1 := Int.emod_nonneg a (show b ≠ 0 by omega)
    have r2 := Int.emod_lt_of_pos a hb.1
    have e1 := Int.tdiv_eq_ediv (a := a) (b := b)
    have e2 := Int.tmod_eq_emod (a := a) (b := b)
    have hs : b.sign = 1 := Int.sign_eq_one_of_pos hb.1
    by_cases hc : 0 ≤ a ∨ b ∣ a
    · rw [if_pos hc] at e1 e2
      exact .inl ⟨by omega, by omega⟩
    · rw [if_neg hc] at e1 e2
      rw [hs] at e1
      exact .inr ⟨by omega, by omega, by omega⟩
  have hm2 : 0 ≤ a % b ∧ a % b < b := ⟨Int.emod_nonneg _ (by omega), Int.emod_lt_of_pos _ hb.1⟩
  have q1 : -4611686018427387904 < a.tdiv b ∧ a.tdiv b < 4611686018427387904 := by
    have := Int.natAbs_tdiv_le_natAbs a b
    omega
  have q2 : -4611686018427387904 < a.tmod b ∧ a.tmod b < 4611686018427387904 := by omega
  have hb0 : Below w.heap.size w (w.alloc (.cells #[.int .i64 a, .int .i64 b] 51)) := (Below.refl _ _).alloc (Nat.le_refl _) _
  have v1 : IntKind.i64.wrap (a.tdiv b) = a.tdiv b := IntWalk.i64_in _ ⟨by omega, by omega⟩
  have v2 : IntKind.i64.wrap (a.tmod b) = a.tmod b := IntWalk.i64_in _ ⟨by omega, by omega⟩
  have v3 : IntKind.i64.wrap (a.tdiv b - 1) = a.tdiv b - 1 := IntWalk.i64_in _ ⟨by omega, by omega⟩
  have v4 : a.tmod b < 0 → IntKind.i64.wrap (a.tmod b + b) = a.tmod b + b := fun _ => IntWalk.i64_in _ ⟨by omega, by omega⟩
  have hbn : b ≠ 0 := by omega
  go_enter Try.func94, Try.ntmps94
  go_upto_region 1 with fail
  go_region
  go_wp2
  · have hl : a.tmod b < 0 := by assumption
    rcases hm with ⟨e1, e2⟩ | ⟨_, e1, e2⟩
    · omega
    · go_ret2
      exact ⟨ret_two (by rw [← e2]; rfl) (by rw [← e1]; rfl), hb0.drew⟩
  · have hl : 0 ≤ a.tmod b := by omega
    rcases hm with ⟨e1, e2⟩ | ⟨_, e1, e2⟩
    · go_ret2
      exact ⟨ret_two (by rw [← e2]; rfl) (by rw [← e1]; rfl), hb0.drew⟩
    · omega
end Go.Proofs.Ytffblmhaoekkgaa.prp

/- Chapter 7, the walks: a fraction below another one. -/
namespace Go.Proofs.Ytffblmhaoekkgaa.prp
open Go.RowKit
set_option linter.unusedSimpArgs false
set_option linter.unusedVariables false

/-- what the program reckons -/
def belowS (a b c d : Int) : Bool := if a / b = c / d then decide (a % b * d < c % d * b) else decide (a / b < c / d)
theorem belowS_eq (a b c d : Int) (hb : 0 < b) (hd : 0 < d) : belowS a b c d = decide (a * d < c * b) := by
  have e1 := Int.mul_ediv_add_emod a b
  have e2 := Int.mul_ediv_add_emod c d
  have r1 := Int.emod_nonneg a (show b ≠ 0 by omega)
  have r2 := Int.emod_lt_of_pos a hb
  have r3 := Int.emod_nonneg c (show d ≠ 0 by omega)
  have r4 := Int.emod_lt_of_pos c hd
  unfold belowS
  generalize a / b = p at *
  generalize c / d = q at *
  generalize a % b = r at *
  generalize c % d = s at *
  subst e1 e2
  have x1 : (b * p + r) * d = b * d * p + r * d := by rw [Int.add_mul, Int.mul_right_comm]
  have x2 : (d * q + s) * b = b * d * q + s * b := by rw [Int.add_mul, Int.mul_right_comm, Int.mul_comm d b]
  have y1 : r * d < b * d := Int.mul_lt_mul_of_pos_right r2 hd
  have y2 : 0 ≤ r * d := Int.mul_nonneg r1 (by omega)
  have y3 : s * b < d * b := Int.mul_lt_mul_of_pos_right r4 hb
  have y4 : 0 ≤ s * b := Int.mul_nonneg r3 (by omega)
  rw [Int.mul_comm d b] at y3
  rw [x1, x2]
  have hbd : 0 < b * d := Int.mul_pos hb hd
  generalize b * d = m at *
  generalize r * d = u at *
  generalize s * b = v at *
  split
  · rename_i h; subst h
    rw [decide_eq_decide]; omega
  · rename_i h
    rw [decide_eq_decide]
    rcases Int.lt_or_gt_of_ne h with hlt | hgt
    · have : m * (p + 1) ≤ m * q := Int.mul_le_mul_of_nonneg_left (by omega) (by omega)
      rw [Int.mul_add, Int.mul_one] at this
      constructor <;> intro _ <;> omega
    · have : m * (q + 1) ≤ m * p := Int.mul_le_mul_of_nonneg_left (by omega) (by omega)
      rw [Int.mul_add, Int.mul_one] at this
      constructor <;> intro _ <;> omega
end Go.Proofs.Ytffblmhaoekkgaa.prp

/- Chapter 7, the walks: a fraction below another one. -/
namespace Go.Proofs.Ytffblmhaoekkgaa.prp
open Go.RowKit
set_option linter.unusedSimpArgs false
set_option linter.unusedVariables false

set_option maxRecDepth 100000 in
set_option maxHeartbeats 400000 in
theorem fbelow_any (a b c d : Int) (w : World) (ha : -4611686018427387904 < a ∧ a < 4611686018427387904) (hc : -4611686018427387904 < c ∧ c < 4611686018427387904) (hb : 0 < b ∧ b < 2147483648) (hd : 0 < d ∧ d < 2147483648) :
    Calls Try.prog 68 #[.agg #[.int .i64 a, .int .i64 b], .agg #[.int .i64 c, .int .i64 d]] w fun e w' => e = .returned (.bool (decide (a * d < c * b))) ∧ Below w.heap.size w w' := by
  rw [← belowS_eq a b c d hb.1 hd.1]
  have m1 : 0 ≤ a % b ∧ a % b < b := ⟨Int.emod_nonneg _ (by omega), Int.emod_lt_of_pos _ hb.1⟩
  have m2 : 0 ≤ c % d ∧ c % d < d := ⟨Int.emod_nonneg _ (by omega), Int.emod_lt_of_pos _ hd.1⟩
  have p1 := prod_bd (a := a % b) (b := d) (A := 2147483648) (B := 2147483648) ⟨by omega, by omega⟩ ⟨by omega, by omega⟩
  have p2 := prod_bd (a := c % d) (b := b) (A := 2147483648) (B := 2147483648) ⟨by omega, by omega⟩ ⟨by omega, by omega⟩
  have v1 : IntKind.i64.wrap (a % b * d) = a % b * d := IntWalk.i64_in _ ⟨by omega, by omega⟩
  have v2 : IntKind.i64.wrap (c % d * b) = c % d * b := IntWalk.i64_in _ ⟨by omega, by omega⟩
  have HP := Lib.hid (fun W => parts_any a b W ha ⟨hb.1, by omega⟩)
  have HQ := Lib.hid (fun W => parts_any c d W hc ⟨hd.1, by omega⟩)
  unfold belowS
  generalize a / b = p at *
  generalize c / d = q at *
  generalize a % b = r at *
  generalize c % d = s at *
  have HB : ∀ w1, Below (w.heap.size + 2) ((w.alloc (.cells #[.int .i64 a, .int .i64 b] 51)).alloc (.cells #[.int .i64 c, .int .i64 d] 51)) w1 → Cell2 w1 w.heap.size (.int .i64 a) (.int .i64 b) ∧ Cell2 w1 (w.heap.size + 1) (.int .i64 c) (.int .i64 d) ∧ Below w.heap.size w w1 := fun w1 hb => ⟨((Cell2.new w w.heap.size rfl (.int .i64 a) (.int .i64 b) 51).below (N := w.heap.size + 1) (by omega) ((Below.refl _ _).alloc (by simp) _)).below (N := w.heap.size + 2) (by omega) hb, (Cell2.new (w.alloc (.cells #[.int .i64 a, .int .i64 b] 51)) (w.heap.size + 1) (by simp) (.int .i64 c) (.int .i64 d) 51).below (N := w.heap.size + 2) (by omega) hb, ((((Below.refl _ _).alloc (Nat.le_refl _) _).alloc (by simp) _)).trans (hb.mono (by omega))⟩
  have HBB := Lib.hid HB
  clear HB
  generalize hA : (if p = q then decide (r * d < s * b) else decide (p < q)) = ans
  have HA := Lib.hid hA
  clear hA
  go_enter Try.func68, Try.ntmps68
  go_upto_region 2 with (go_at_call 94; refine (HP.out _).mono ?_; rintro e w1 ⟨rfl, hb1⟩)
  have hB1 : Below (w.heap.size + 2) ((w.alloc (.cells #[.int .i64 a, .int .i64 b] 51)).alloc (.cells #[.int .i64 c, .int .i64 d] 51)) w1 := by simpa using hb1
  have HB1 := Lib.hid hB1
  obtain ⟨h5, h6, h7⟩ := HBB.out w1 hB1
  have hz := h6.1
  have H5 := Lib.hid h5
  have H6 := Lib.hid h6
  clear hB1 hb1 h7 h5
  obtain ⟨z0, z1, z2, z3, z4⟩ := h6
  go_upto_region 3 with (go_at_call 94; refine (HQ.out _).mono ?_; rintro e w2 ⟨rfl, hb2⟩)
  have h8 := H5.out.below (by omega) hb2
  have h9 := H6.out.below hz hb2
  have h10 := (HBB.out w2 (HB1.out.trans (hb2.mono (by omega)))).2.2
  have H10 := Lib.hid h10
  clear h10 hb2 z0 z1 z2 z3 z4
  obtain ⟨x0, x1, x2, x3, x4⟩ := h8
  obtain ⟨u0, u1, u2, u3, u4⟩ := h9
  by_cases hpq : p = q
  · have HE := Lib.hid hpq
    have heq : (p != q) = false := by simpa using hpq
    clear hpq
    go_wp2
    go_ret
    exact ⟨by rw [← HA.out, if_pos HE.out]; rfl, H10.out⟩
  · have HE := Lib.hid hpq
    have hne : (p != q) = true := by simpa using hpq
    clear hpq
    go_wp2
    go_ret
    exact ⟨by rw [← HA.out, if_neg HE.out]; rfl, H10.out⟩
end Go.Proofs.Ytffblmhaoekkgaa.prp

