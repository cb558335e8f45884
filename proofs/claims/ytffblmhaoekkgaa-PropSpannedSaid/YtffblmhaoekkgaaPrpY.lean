/- Package prop, the walks: first of a row of fractions, Span. -/
import Derived.Test.YtffblmhaoekkgaaPrpW
import Derived.Deep.CutRange
namespace Go.Proofs.Ytffblmhaoekkgaa.prp
open Go.RowKit
set_option linter.unusedSimpArgs false
set_option linter.unusedVariables false

def foundTo (R : Fr → Fr → Bool) (xs : List Fr) : Nat → Fr
  | 0 => xs.getD 0 (0, 0)
  | k + 1 => if R (xs.getD (k + 1) (0, 0)) (foundTo R xs k) then xs.getD (k + 1) (0, 0) else foundTo R xs k
theorem foundTo_mem (R : Fr → Fr → Bool) (xs : List Fr) : ∀ k, k < xs.length → foundTo R xs k ∈ xs
  | 0, h => getD_mem xs 0 _ h
  | k + 1, h => by
    unfold foundTo
    split
    · exact getD_mem xs (k + 1) _ h
    · exact foundTo_mem R xs k (by omega)
set_option maxRecDepth 100000 in
set_option maxHeartbeats 4000000 in
theorem first_any (pf : Nat) (eg : ∀ args w, (callFunc pf args).run Try.prog w = .ok (.enter pf args) w) (R : Fr → Fr → Bool) (q : Option Addr) (cap : Nat) (xs : List Fr) (w : World) (hr : RowV w q (flatF xs)) (hl : xs.length ≤ 5) (h1 : 1 ≤ xs.length) (hcap : xs.length ≤ cap)
    (hc : ∀ x ∈ xs, ∀ y ∈ xs, ∀ W, Calls Try.prog pf #[.agg #[.int .i64 x.1, .int .i64 x.2], .agg #[.int .i64 y.1, .int .i64 y.2]] W fun e w' => e = .returned (.bool (R x y)) ∧ Below W.heap.size W w') :
    Calls Try.prog 67 #[.slice q xs.length cap, .func (.func pf) #[] #[]] w fun e w' => e = .returned (frP (foundTo R xs (xs.length - 1))) ∧ Below w.heap.size w w' := by
  have EG := Lib.hid eg
  have HC := Lib.hid hc
  have hb0 : Below w.heap.size w (w.alloc (.cells #[.int .i64 0, .int .i64 0] 51)) := (Below.refl _ _).alloc (Nat.le_refl _) _
  have hcc0 := Cell2.new w w.heap.size rfl (.int .i64 0) (.int .i64 0) 51
  have hz0 : (w.alloc (.cells #[.int .i64 0, .int .i64 0] 51)).heap.size = w.heap.size + 1 := by simp
  have hn1 : (1 : Int) ≤ (xs.length : Int) := by omega
  have hn2 : (xs.length : Int) ≤ (cap : Int) := by omega
  have hn3 : (1 : Int) ≤ (cap : Int) := by omega
  have hn4 : (0 : Int) < (xs.length : Int) := by omega
  clear eg hc
  go_enter Try.func67, Try.ntmps67
  go_upto_region 1 with fail
  generalize (w.alloc (.cells #[.int .i64 0, .int .i64 0] 51)) = W0 at *
  obtain ⟨b, off, rfl, hb, g1, g2⟩ := rowF_at hr (k := 0) (by omega) (Nat.le_refl _) hb0
  rw [Nat.zero_mul, Nat.add_zero] at g1 g2
  have HB0 := Lib.hid hb0
  have HCC := Lib.hid hcc0
  have HR := Lib.hid hr
  generalize hx0 : xs.getD 0 (0, 0) = x0 at g1 g2
  have HX0 := Lib.hid hx0
  clear hb0 hcc0 hr hx0
  obtain ⟨x01, x02⟩ := x0
  go_upto_region 2 with fail
  have A1 : Below W0.heap.size W0 (W0.alloc (.cells #[.int .i64 x01, .int .i64 x02] 51)) := (Below.refl _ _).alloc (Nat.le_refl _) _
  have hc5 := Cell2.new W0 (w.heap.size + 1) hz0 (.int .i64 x01) (.int .i64 x02) 51
  have hz1 : (W0.alloc (.cells #[.int .i64 x01, .int .i64 x02] 51)).heap.size = w.heap.size + 2 := by simp; omega
  have hc4 := HCC.out.below (N := W0.heap.size) (by omega) A1
  have hb1 := HB0.out.on A1
  clear A1
  generalize (W0.alloc (.cells #[.int .i64 x01, .int .i64 x02] 51)) = W1 at *
  have HC5 := Lib.hid hc5
  have HC4 := Lib.hid hc4
  have HB1 := Lib.hid hb1
  clear hc5 hc4 hb1 g1 g2
  have hni : (xs.length : Int) - 1 = ((xs.length - 1 : Nat) : Int) := by omega
  go_cut [12, 13, 14] from 11 to 11 (fun v12 v13 v14 wx => (∃ p2 c2, v12 = .slice p2 (xs.length - 1) c2 ∧ (2 ≤ xs.length → p2 = some ⟨b, off + 2, none⟩)) ∧ v13 = .int .i64 ((xs.length - 1 : Nat) : Int) ∧ v14 = .int .i64 0 ∧ wx = W1)
  case first =>
    by_cases hcap1 : cap = 1
    · have hlen : xs.length = 1 := by omega
      have HL := Lib.hid hlen
      clear hlen
      go_wp2
      go_meet
      case rel => exact ⟨⟨_, _, rfl, fun h => by have := HL.out; omega⟩, rfl, rfl, rfl⟩
    · go_wp2
      go_meet
      case rel => exact ⟨⟨_, _, rfl, fun _ => rfl⟩, rfl, rfl, rfl⟩
  case rest =>
  obtain ⟨⟨p2, c2, rfl, hp2⟩, rfl, rfl, rfl⟩ := hcut
  have HP2 := Lib.hid hp2
  clear hp2 hni
  go_wp2
  go_loopw [14] (fun i wr => ∃ k : Nat, k ≤ xs.length - 1 ∧ i = .int .i64 k ∧ Hid (Cell2 wr (w.heap.size + 1) (.int .i64 (foundTo R xs k).1) (.int .i64 (foundTo R xs k).2)) ∧ Below w.heap.size w wr ∧ w.heap.size + 2 ≤ wr.heap.size ∧ Hid (Cell2 wr w.heap.size (.int .i64 0) (.int .i64 0))) (fun i _ => xs.length - 1 - (intOf i).toNat)
  case atStart => exact ⟨0, Nat.zero_le _, rfl, by show Hid (Cell2 wc _ (.int .i64 (xs.getD 0 (0, 0)).1) (.int .i64 (xs.getD 0 (0, 0)).2)); rw [HX0.out]; exact HC5, HB1.out, by omega, HC4⟩
  case round =>
    obtain ⟨k, hk, rfl, HF, hbel, hsz, HZ⟩ := hrel
    by_cases hlt : k < xs.length - 1
    · obtain rfl := HP2.out (by omega)
      obtain ⟨b', off', e, hb', g1, g2⟩ := rowF_at HR.out (k := k + 1) (by omega) (Nat.le_refl _) hbel
      injection e with e
      injection e with e1 e2 e3
      subst e1 e2
      rw [show off + (k + 1) * 2 = off + 2 + k * 2 by omega] at g1 g2
      have hfs : foundTo R xs (k + 1) = if R (xs.getD (k + 1) (0, 0)) (foundTo R xs k) then xs.getD (k + 1) (0, 0) else foundTo R xs k := rfl
      have hcl := HC.out _ (getD_mem xs (k + 1) (0, 0) (by omega)) _ (foundTo_mem R xs k (by omega))
      generalize xs.getD (k + 1) (0, 0) = x at g1 g2 hfs hcl
      generalize foundTo R xs k = f at HF hfs hcl
      obtain ⟨x1, x2⟩ := x
      obtain ⟨f1, f2⟩ := f
      simp only at g1 g2 hcl
      have HFS := Lib.hid hfs
      have HCL := Lib.hid hcl
      have HBL := Lib.hid hbel
      clear hfs hcl hbel
      go_upto_region 5 with fail
      have A0 : Below wr.heap.size wr (wr.alloc (.cells #[.int .i64 x1, .int .i64 x2] 51)) := (Below.refl _ _).alloc (Nat.le_refl _) _
      have cx := Cell2.new wr wr.heap.size rfl (.int .i64 x1) (.int .i64 x2) 51
      have HF1 := Lib.hid (HF.out.below (N := wr.heap.size) (by omega) A0)
      have HZ1 := Lib.hid (HZ.out.below (N := wr.heap.size) (by omega) A0)
      have HB2 := Lib.hid (HBL.out.on A0)
      have hz2 : (wr.alloc (.cells #[.int .i64 x1, .int .i64 x2] 51)).heap.size = wr.heap.size + 1 := by simp
      clear A0 g1 g2
      generalize (wr.alloc (.cells #[.int .i64 x1, .int .i64 x2] 51)) = W2 at *
      obtain ⟨c0, c1, c2', _, _⟩ := cx
      obtain ⟨d0, d1, d2, _, _⟩ := HF1.out
      simp only at d1 d2
      go_wp2
      rw [EG.out, Oper.upon_enter]
      refine (HCL.out _).mono ?_
      rintro e w3 ⟨rfl, hb3⟩
      dsimp only
      have HF3 := Lib.hid (HF1.out.below (N := W2.heap.size) (by omega) hb3)
      have HZ3 := Lib.hid (HZ1.out.below (N := W2.heap.size) (by omega) hb3)
      have HB3 := Lib.hid (HB2.out.on hb3)
      have hs3 := hb3.size
      have x1c := (hb3.cell (p := ⟨wr.heap.size, 0, none⟩) c0).trans c1
      have x2c := (hb3.cell (p := ⟨wr.heap.size, 1, none⟩) c0).trans c2'
      obtain ⟨y0, y1, y2, y3, y4⟩ := HF3.out
      clear hb3 c0 c1 c2' d0 d1 d2
      obtain ⟨rb, hrb⟩ : ∃ rb : Bool, R (x1, x2) (f1, f2) = rb := ⟨_, rfl⟩
      rw [hrb]
      have HRB := Lib.hid hrb
      clear hrb
      cases rb
      · go_wp2
        go_roundw
        case rel => exact ⟨k + 1, hlt, by go_num, by rw [HFS.out, HRB.out, if_neg (by simp)]; exact HF3, HB3.out, by omega, HZ3⟩
        case measure => simp [intOf]; omega
      · have hset := HF3.out.set (.int .i64 x1) (.int .i64 x2)
        have hzset : Cell2 ((w3.setCell ⟨w.heap.size + 1, 0, none⟩ (.int .i64 x1)).setCell ⟨w.heap.size + 1, 1, none⟩ (.int .i64 x2)) w.heap.size (.int .i64 0) (.int .i64 0) :=
          HZ3.out.below (N := w.heap.size + 1) (by omega) (((Below.refl _ _).setCell (p := ⟨w.heap.size + 1, 0, none⟩) (Nat.le_refl _) _).setCell (p := ⟨w.heap.size + 1, 1, none⟩) (Nat.le_refl _) _)
        have hbs : Below w.heap.size w ((w3.setCell ⟨w.heap.size + 1, 0, none⟩ (.int .i64 x1)).setCell ⟨w.heap.size + 1, 1, none⟩ (.int .i64 x2)) :=
          (HB3.out.setCell (p := ⟨w.heap.size + 1, 0, none⟩) (Nat.le_succ _) _).setCell (p := ⟨w.heap.size + 1, 1, none⟩) (Nat.le_succ _) _
        have hss : ((w3.setCell ⟨w.heap.size + 1, 0, none⟩ (.int .i64 x1)).setCell ⟨w.heap.size + 1, 1, none⟩ (.int .i64 x2)).heap.size = w3.heap.size := by simp
        have HSET := Lib.hid hset
        have HZS := Lib.hid hzset
        have HBS := Lib.hid hbs
        have HSS := Lib.hid hss
        clear hset hzset hbs hss
        go_wp2
        go_roundw
        case rel => exact ⟨k + 1, hlt, by go_num, by rw [HFS.out, HRB.out, if_pos rfl]; exact HSET, HBS.out, by rw [HSS.out]; omega, HZS⟩
        case measure => simp [intOf]; omega
    · obtain rfl : k = xs.length - 1 := by omega
      generalize hf : foundTo R xs (xs.length - 1) = f at HF
      have HFE := Lib.hid hf
      clear hf
      obtain ⟨f1, f2⟩ := f
      obtain ⟨d0, d1, d2, d3, d4⟩ := HF.out
      obtain ⟨z0, z1, z2, z3, z4⟩ := HZ.out
      simp only at d1 d2
      go_wp2
      obtain ⟨k0, k1, k2, _, _⟩ := HZ.out.set (.int .i64 f1) (.int .i64 f2)
      have hbn : Below w.heap.size w ((wr.setCell ⟨w.heap.size, 0, none⟩ (.int .i64 f1)).setCell ⟨w.heap.size, 1, none⟩ (.int .i64 f2)) :=
        (hbel.setCell (p := ⟨w.heap.size, 0, none⟩) (Nat.le_refl _) _).setCell (p := ⟨w.heap.size, 1, none⟩) (Nat.le_refl _) _
      generalize ((wr.setCell ⟨w.heap.size, 0, none⟩ (.int .i64 f1)).setCell ⟨w.heap.size, 1, none⟩ (.int .i64 f2)) = W at *
      refine bodyPost_ret (by simp [results, Try.results67, go_sem, k1, k2]; try rfl) rfl ?_
      exact ⟨by rw [HFE.out]; rfl, hbn⟩

/-! Span -/
theorem low_bd {a b : Int} (hb : 0 < b) : (lowN a b).natAbs ≤ a.natAbs ∧ 0 < lowD a b ∧ lowD a b ≤ b := by
  unfold lowN lowD
  have h1 := Int.natAbs_tdiv_le_natAbs a (Int.gcd a b)
  have h2 := Int.natAbs_tdiv_le_natAbs b (Int.gcd a b)
  have hg : 0 < Int.gcd a b := Int.gcd_pos_of_ne_zero_right _ (by omega)
  have hgb : (Int.gcd a b : Int) ≤ b := Int.le_of_dvd hb (Int.gcd_dvd_right ..)
  have h3 : 0 < b.tdiv (Int.gcd a b) := by
    rw [Int.tdiv_eq_ediv_of_nonneg (by omega)]
    exact Int.ediv_pos_of_pos_of_dvd hb (by omega) (Int.gcd_dvd_right ..)
  exact ⟨h1, h3, by omega⟩
theorem cenF_bd {l : List Sn} (hok : ∀ s ∈ l, okS s) (h5 : l.length ≤ 5) {ws : List Int} (hb : Bnd l ws) {lv : Nat} (hlv : lv < l.length) :
    (-50000000000 ≤ (cenF l ws lv).1 ∧ (cenF l ws lv).1 ≤ 50000000000) ∧ 0 < (cenF l ws lv).2 ∧ (cenF l ws lv).2 ≤ 500 := by
  have hp := weigh_wsum hok hb hlv
  have hk := okW_bd (weigh_okW hok hb h5 lv)
  have hl := low_bd (a := msum ((weighS l ws).drop lv)) hp
  unfold cenF
  simp only
  omega
theorem exTo_bd {l : List Sn} (hok : ∀ s ∈ l, okS s) (h5 : l.length ≤ 5) {lv : Nat} (hlv : lv < l.length) (d : Int) (k : Nat) : ∀ x ∈ exTo l lv d k, (-50000000000 ≤ x.1 ∧ x.1 ≤ 50000000000) ∧ 0 < x.2 ∧ x.2 ≤ 500 := by
  intro x hx
  unfold exTo at hx
  obtain ⟨j, hj, rfl⟩ := List.mem_map.1 hx
  exact cenF_bd hok h5 (leanS_bnd hok lv d _) hlv
def belF (x y : Fr) : Bool := decide (x.1 * y.2 < y.1 * x.2)
def abvF (x y : Fr) : Bool := decide (y.1 * x.2 < x.1 * y.2)
/-- the ends of the span of a level -/
def lowS (l : List Sn) (lv : Nat) : Fr := foundTo belF (exTo l lv (-1) (l.length - lv)) (l.length - lv - 1)
def highS (l : List Sn) (lv : Nat) : Fr := foundTo abvF (exTo l lv 1 (l.length - lv)) (l.length - lv - 1)
set_option maxRecDepth 100000 in
set_option maxHeartbeats 4000000 in
theorem Span_ok (q : Option Addr) (cap : Nat) (l : List Sn) (lv : Nat) (w : World) (hr : RowV w q (flatS l)) (hE : errP l = 0) (hlv : lv < l.length) (hcap : l.length ≤ cap) :
    Calls Try.prog 26 #[.slice q l.length cap, .int .i64 lv] w fun e w' => e = .returned (.tuple #[frP (lowS l lv), frP (highS l lv), .int .i64 0]) ∧ Below w.heap.size w w' := by
  obtain ⟨_, h5, hok⟩ := errP_ok hE
  have hpl : placeErr l lv = 0 := by rw [place_of hE, if_neg (by omega)]
  have hcp := fun W hb => checkPlace_any q cap l lv W (hr.below (Nat.le_refl _) hb) (by omega)
  rw [hpl] at hcp
  have HCP := Lib.hid hcp
  have HE1 := Lib.hid (fun W hb => extremes_any q cap l lv (-1) W (hr.below (Nat.le_refl _) hb) h5 hok hlv (.inr rfl) hcap)
  have HE2 := Lib.hid (fun W hb => extremes_any q cap l lv 1 W (hr.below (Nat.le_refl _) hb) h5 hok hlv (.inl rfl) hcap)
  have b1 := exTo_bd hok h5 hlv (-1) (l.length - lv)
  have b2 := exTo_bd hok h5 hlv 1 (l.length - lv)
  have l1 := exTo_length l lv (-1) (l.length - lv)
  have l2 := exTo_length l lv 1 (l.length - lv)
  have hf1 := fun q c W (hr : RowV W q (flatF (exTo l lv (-1) (l.length - lv)))) (hc : l.length - lv ≤ c) => first_any 68 (fun args w => rfl) belF q c _ W hr (by omega) (by omega) (by omega)
    (fun x hx y hy W => fbelow_any x.1 x.2 y.1 y.2 W (by have := b1 x hx; omega) (by have := b1 y hy; omega) (by have := b1 x hx; omega) (by have := b1 y hy; omega))
  have hf2 := fun q c W (hr : RowV W q (flatF (exTo l lv 1 (l.length - lv)))) (hc : l.length - lv ≤ c) => first_any 69 (fun args w => rfl) abvF q c _ W hr (by omega) (by omega) (by omega)
    (fun x hx y hy W => fabove_any x.1 x.2 y.1 y.2 W (by have := b2 x hx; omega) (by have := b2 y hy; omega) (by have := b2 x hx; omega) (by have := b2 y hy; omega))
  simp only [l1] at hf1
  simp only [l2] at hf2
  have e1 : foundTo belF (exTo l lv (-1) (l.length - lv)) (l.length - lv - 1) = lowS l lv := rfl
  have e2 : foundTo abvF (exTo l lv 1 (l.length - lv)) (l.length - lv - 1) = highS l lv := rfl
  simp only [e1] at hf1
  simp only [e2] at hf2
  have HF1 := Lib.hid hf1
  have HF2 := Lib.hid hf2
  clear hcp hpl hE hr b1 b2 l1 l2 hf1 hf2 hok e1 e2
  have hb0 : Below w.heap.size w ((w.alloc (.cells #[.int .i64 0, .int .i64 0] 51)).alloc (.cells #[.int .i64 0, .int .i64 0] 51)) := ((Below.refl _ _).alloc (Nat.le_refl _) _).alloc (by simp) _
  have c4 : Cell2 ((w.alloc (.cells #[.int .i64 0, .int .i64 0] 51)).alloc (.cells #[.int .i64 0, .int .i64 0] 51)) w.heap.size (.int .i64 0) (.int .i64 0) :=
    (Cell2.new w w.heap.size rfl (.int .i64 0) (.int .i64 0) 51).below (N := w.heap.size + 1) (by omega) ((Below.refl _ _).alloc (by simp) _)
  have c5 := Cell2.new (w.alloc (.cells #[.int .i64 0, .int .i64 0] 51)) (w.heap.size + 1) (by simp) (.int .i64 0) (.int .i64 0) 51
  have hz0 : ((w.alloc (.cells #[.int .i64 0, .int .i64 0] 51)).alloc (.cells #[.int .i64 0, .int .i64 0] 51)).heap.size = w.heap.size + 2 := by simp
  generalize hLS : lowS l lv = ls at *
  generalize hHS : highS l lv = hs at *
  have HLS := Lib.hid hLS
  have HHS := Lib.hid hHS
  clear hLS hHS
  obtain ⟨a1, a2⟩ := ls
  obtain ⟨b1, b2⟩ := hs
  unfold frP frV at HF1 HF2
  simp only at HF1 HF2
  go_enter Try.func26, Try.ntmps26
  go_upto_region 1 with fail
  generalize ((w.alloc (.cells #[.int .i64 0, .int .i64 0] 51)).alloc (.cells #[.int .i64 0, .int .i64 0] 51)) = W0 at *
  have HB0 := Lib.hid hb0
  have H4 := Lib.hid c4
  have H5 := Lib.hid c5
  clear hb0 c4 c5
  go_upto_region 4 with (go_at_call 60; refine (HCP.out _ HB0.out).mono ?_; rintro e W1 ⟨rfl, hb1⟩)
  have HB1 := Lib.hid (HB0.out.on hb1)
  have H41 := Lib.hid (H4.out.below (N := W0.heap.size) (by omega) hb1)
  have H51 := Lib.hid (H5.out.below (N := W0.heap.size) (by omega) hb1)
  have hs1 := hb1.size
  clear hb1
  go_upto_region 5 with (first
    | (go_at_call 66; refine (HE1.out _ HB1.out).mono ?_; rintro e W2 ⟨q2, c2, rfl, hr2, hc2, hb2⟩; have HB2 := Lib.hid (HB1.out.on hb2); have H42 := Lib.hid (H41.out.below (N := W1.heap.size) (by omega) hb2); have H52 := Lib.hid (H51.out.below (N := W1.heap.size) (by omega) hb2); have hs2 := hb2.size; have HR2 := Lib.hid hr2; clear hb2 hr2)
    | (go_at_call 67; refine (HF1.out q2 c2 _ HR2.out hc2).mono ?_; rintro e W3 ⟨rfl, hb3⟩; have HB3 := Lib.hid (HB2.out.on hb3); have H43 := Lib.hid (H42.out.below (N := W2.heap.size) (by omega) hb3); have H53 := Lib.hid (H52.out.below (N := W2.heap.size) (by omega) hb3); have hs3 := hb3.size; clear hb3; obtain ⟨y0, y1, y2, y3, y4⟩ := H43.out))
  have c4 := H43.out.set (.int .i64 a1) (.int .i64 a2)
  have hb4 : Below w.heap.size W3 ((W3.setCell ⟨w.heap.size, 0, none⟩ (.int .i64 a1)).setCell ⟨w.heap.size, 1, none⟩ (.int .i64 a2)) :=
    ((Below.refl _ _).setCell (p := ⟨w.heap.size, 0, none⟩) (Nat.le_refl _) _).setCell (p := ⟨w.heap.size, 1, none⟩) (Nat.le_refl _) _
  have c5 : Cell2 ((W3.setCell ⟨w.heap.size, 0, none⟩ (.int .i64 a1)).setCell ⟨w.heap.size, 1, none⟩ (.int .i64 a2)) (w.heap.size + 1) (.int .i64 0) (.int .i64 0) := by
    obtain ⟨z0, z1, z2, z3, z4⟩ := H53.out
    refine ⟨by simp only [World.size_setCell]; exact z0, ?_, ?_, ?_, ?_⟩
    · rw [World.cell?_setCell_other (h := by simp), World.cell?_setCell_other (h := by simp)]; exact z1
    · rw [World.cell?_setCell_other (h := by simp), World.cell?_setCell_other (h := by simp)]; exact z2
    · simpa using z3
    · simpa using z4
  have hz4 : ((W3.setCell ⟨w.heap.size, 0, none⟩ (.int .i64 a1)).setCell ⟨w.heap.size, 1, none⟩ (.int .i64 a2)).heap.size = W3.heap.size := by simp
  have HB4 := Lib.hid (HB3.out.trans hb4)
  clear y0 y1 y2 y3 y4 hb4
  generalize ((W3.setCell ⟨w.heap.size, 0, none⟩ (.int .i64 a1)).setCell ⟨w.heap.size, 1, none⟩ (.int .i64 a2)) = W4 at *
  have H44 := Lib.hid c4
  have H54 := Lib.hid c5
  clear c4 c5
  go_upto_region 6 with (first
    | (go_at_call 66; refine (HE2.out _ HB4.out).mono ?_; rintro e W5 ⟨q5, c5, rfl, hr5, hc5, hb5⟩; have HB5 := Lib.hid (HB4.out.on hb5); have H45 := Lib.hid (H44.out.below (N := W4.heap.size) (by omega) hb5); have H55 := Lib.hid (H54.out.below (N := W4.heap.size) (by omega) hb5); have hs5 := hb5.size; have HR5 := Lib.hid hr5; clear hb5 hr5)
    | (go_at_call 67; refine (HF2.out q5 c5 _ HR5.out hc5).mono ?_; rintro e W6 ⟨rfl, hb6⟩; have HB6 := Lib.hid (HB5.out.on hb6); have H46 := Lib.hid (H45.out.below (N := W5.heap.size) (by omega) hb6); have H56 := Lib.hid (H55.out.below (N := W5.heap.size) (by omega) hb6); have hs6 := hb6.size; clear hb6; obtain ⟨y0, y1, y2, y3, y4⟩ := H56.out))
  have c5 := H56.out.set (.int .i64 b1) (.int .i64 b2)
  have hb7 : Below w.heap.size W6 ((W6.setCell ⟨w.heap.size + 1, 0, none⟩ (.int .i64 b1)).setCell ⟨w.heap.size + 1, 1, none⟩ (.int .i64 b2)) :=
    ((Below.refl _ _).setCell (p := ⟨w.heap.size + 1, 0, none⟩) (Nat.le_succ _) _).setCell (p := ⟨w.heap.size + 1, 1, none⟩) (Nat.le_succ _) _
  have c4 : Cell2 ((W6.setCell ⟨w.heap.size + 1, 0, none⟩ (.int .i64 b1)).setCell ⟨w.heap.size + 1, 1, none⟩ (.int .i64 b2)) w.heap.size (.int .i64 a1) (.int .i64 a2) :=
    H46.out.below (N := w.heap.size + 1) (by omega) (((Below.refl _ _).setCell (p := ⟨w.heap.size + 1, 0, none⟩) (Nat.le_refl _) _).setCell (p := ⟨w.heap.size + 1, 1, none⟩) (Nat.le_refl _) _)
  have HB7 := Lib.hid (HB6.out.trans hb7)
  clear y0 y1 y2 y3 y4 hb7
  generalize ((W6.setCell ⟨w.heap.size + 1, 0, none⟩ (.int .i64 b1)).setCell ⟨w.heap.size + 1, 1, none⟩ (.int .i64 b2)) = W7 at *
  have H47 := Lib.hid c4
  have H57 := Lib.hid c5
  obtain ⟨x0, x1, x2, x3, x4⟩ := c4
  obtain ⟨y0, y1, y2, y3, y4⟩ := c5
  have hd : Below W7.heap.size W7 W7.drew := (Below.refl _ _).drew
  obtain ⟨u0, u1, u2, u3, u4⟩ := H47.out.below x0 hd
  obtain ⟨v0, v1, v2, v3, v4⟩ := H57.out.below y0 hd
  clear hd
  go_region
  all_goals go_wp2
  all_goals
    have s4 := H47.out.set (.int .i64 a1) (.int .i64 a2)
    have s5 : Cell2 ((W7.setCell ⟨w.heap.size, 0, none⟩ (.int .i64 a1)).setCell ⟨w.heap.size, 1, none⟩ (.int .i64 a2)) (w.heap.size + 1) (.int .i64 b1) (.int .i64 b2) := by
      obtain ⟨z0, z1, z2, z3, z4⟩ := H57.out
      refine ⟨by simp only [World.size_setCell]; exact z0, ?_, ?_, ?_, ?_⟩
      · rw [World.cell?_setCell_other (h := by simp), World.cell?_setCell_other (h := by simp)]; exact z1
      · rw [World.cell?_setCell_other (h := by simp), World.cell?_setCell_other (h := by simp)]; exact z2
      · simpa using z3
      · simpa using z4
    have hb8 : Below w.heap.size w ((((W7.setCell ⟨w.heap.size, 0, none⟩ (.int .i64 a1)).setCell ⟨w.heap.size, 1, none⟩ (.int .i64 a2)).setCell ⟨w.heap.size + 1, 0, none⟩ (.int .i64 b1)).setCell ⟨w.heap.size + 1, 1, none⟩ (.int .i64 b2)).drew :=
      ((((HB7.out.setCell (p := ⟨w.heap.size, 0, none⟩) (Nat.le_refl _) _).setCell (p := ⟨w.heap.size, 1, none⟩) (Nat.le_refl _) _).setCell (p := ⟨w.heap.size + 1, 0, none⟩) (Nat.le_succ _) _).setCell (p := ⟨w.heap.size + 1, 1, none⟩) (Nat.le_succ _) _).drew
    generalize ((W7.setCell ⟨w.heap.size, 0, none⟩ (.int .i64 a1)).setCell ⟨w.heap.size, 1, none⟩ (.int .i64 a2)) = W8 at *
    have t5 := s5.set (.int .i64 b1) (.int .i64 b2)
    have t4 : Cell2 ((W8.setCell ⟨w.heap.size + 1, 0, none⟩ (.int .i64 b1)).setCell ⟨w.heap.size + 1, 1, none⟩ (.int .i64 b2)) w.heap.size (.int .i64 a1) (.int .i64 a2) :=
      s4.below (N := w.heap.size + 1) (by omega) (((Below.refl _ _).setCell (p := ⟨w.heap.size + 1, 0, none⟩) (Nat.le_refl _) _).setCell (p := ⟨w.heap.size + 1, 1, none⟩) (Nat.le_refl _) _)
    generalize ((W8.setCell ⟨w.heap.size + 1, 0, none⟩ (.int .i64 b1)).setCell ⟨w.heap.size + 1, 1, none⟩ (.int .i64 b2)) = W9 at *
    have hd : Below W9.heap.size W9 W9.drew := (Below.refl _ _).drew
    obtain ⟨p0, p1, p2, _, _⟩ := t4.below t4.1 hd
    obtain ⟨r0, r1, r2, _, _⟩ := t5.below t5.1 hd
    refine bodyPost_ret (by simp [results, Try.results26, go_sem, p1, p2, r1, r2]; try rfl) rfl ?_
    exact ⟨rfl, hb8⟩
set_option maxRecDepth 100000 in
set_option maxHeartbeats 4000000 in
theorem Span_no (q : Option Addr) (cap : Nat) (l : List Sn) (k : Int) (w : World) (hr : RowV w q (flatS l)) (hl : l.length ≤ 1000000) (hp : placeErr l k ≠ 0) :
    Calls Try.prog 26 #[.slice q l.length cap, .int .i64 k] w fun e w' => e = .returned (.tuple #[frV 0 0, frV 0 0, .int .i64 (placeErr l k)]) ∧ Below w.heap.size w w' := by
  have HCP := Lib.hid (fun W hb => checkPlace_any q cap l k W (hr.below (Nat.le_refl _) hb) hl)
  have hne : (placeErr l k != 0) = true := by simpa using hp
  have hb0 : Below w.heap.size w ((w.alloc (.cells #[.int .i64 0, .int .i64 0] 51)).alloc (.cells #[.int .i64 0, .int .i64 0] 51)) := ((Below.refl _ _).alloc (Nat.le_refl _) _).alloc (by simp) _
  have c4 : Cell2 ((w.alloc (.cells #[.int .i64 0, .int .i64 0] 51)).alloc (.cells #[.int .i64 0, .int .i64 0] 51)) w.heap.size (.int .i64 0) (.int .i64 0) :=
    (Cell2.new w w.heap.size rfl (.int .i64 0) (.int .i64 0) 51).below (N := w.heap.size + 1) (by omega) ((Below.refl _ _).alloc (by simp) _)
  have c5 := Cell2.new (w.alloc (.cells #[.int .i64 0, .int .i64 0] 51)) (w.heap.size + 1) (by simp) (.int .i64 0) (.int .i64 0) 51
  have hz0 : ((w.alloc (.cells #[.int .i64 0, .int .i64 0] 51)).alloc (.cells #[.int .i64 0, .int .i64 0] 51)).heap.size = w.heap.size + 2 := by simp
  generalize placeErr l k = E at *
  clear hr hl hp
  go_enter Try.func26, Try.ntmps26
  go_upto_region 1 with fail
  generalize ((w.alloc (.cells #[.int .i64 0, .int .i64 0] 51)).alloc (.cells #[.int .i64 0, .int .i64 0] 51)) = W0 at *
  have HB0 := Lib.hid hb0
  have H4 := Lib.hid c4
  have H5 := Lib.hid c5
  clear hb0 c4 c5
  go_upto_region 3 with (go_at_call 60; refine (HCP.out _ HB0.out).mono ?_; rintro e W1 ⟨rfl, hb1⟩)
  have HB1 := Lib.hid (HB0.out.on hb1)
  have H41 := Lib.hid (H4.out.below (N := W0.heap.size) (by omega) hb1)
  have H51 := Lib.hid (H5.out.below (N := W0.heap.size) (by omega) hb1)
  clear hb1
  obtain ⟨x0, x1, x2, x3, x4⟩ := H41.out
  obtain ⟨y0, y1, y2, y3, y4⟩ := H51.out
  go_wp2
  have s4 := H41.out.set (.int .i64 0) (.int .i64 0)
  have s5 : Cell2 ((W1.setCell ⟨w.heap.size, 0, none⟩ (.int .i64 0)).setCell ⟨w.heap.size, 1, none⟩ (.int .i64 0)) (w.heap.size + 1) (.int .i64 0) (.int .i64 0) := by
    obtain ⟨z0, z1, z2, z3, z4⟩ := H51.out
    refine ⟨by simp only [World.size_setCell]; exact z0, ?_, ?_, ?_, ?_⟩
    · rw [World.cell?_setCell_other (h := by simp), World.cell?_setCell_other (h := by simp)]; exact z1
    · rw [World.cell?_setCell_other (h := by simp), World.cell?_setCell_other (h := by simp)]; exact z2
    · simpa using z3
    · simpa using z4
  have hb8 : Below w.heap.size w ((((W1.setCell ⟨w.heap.size, 0, none⟩ (.int .i64 0)).setCell ⟨w.heap.size, 1, none⟩ (.int .i64 0)).setCell ⟨w.heap.size + 1, 0, none⟩ (.int .i64 0)).setCell ⟨w.heap.size + 1, 1, none⟩ (.int .i64 0)) :=
    ((((HB1.out.setCell (p := ⟨w.heap.size, 0, none⟩) (Nat.le_refl _) _).setCell (p := ⟨w.heap.size, 1, none⟩) (Nat.le_refl _) _).setCell (p := ⟨w.heap.size + 1, 0, none⟩) (Nat.le_succ _) _).setCell (p := ⟨w.heap.size + 1, 1, none⟩) (Nat.le_succ _) _)
  generalize ((W1.setCell ⟨w.heap.size, 0, none⟩ (.int .i64 0)).setCell ⟨w.heap.size, 1, none⟩ (.int .i64 0)) = W8 at *
  have t5 := s5.set (.int .i64 0) (.int .i64 0)
  have t4 : Cell2 ((W8.setCell ⟨w.heap.size + 1, 0, none⟩ (.int .i64 0)).setCell ⟨w.heap.size + 1, 1, none⟩ (.int .i64 0)) w.heap.size (.int .i64 0) (.int .i64 0) :=
    s4.below (N := w.heap.size + 1) (by omega) (((Below.refl _ _).setCell (p := ⟨w.heap.size + 1, 0, none⟩) (Nat.le_refl _) _).setCell (p := ⟨w.heap.size + 1, 1, none⟩) (Nat.le_refl _) _)
  generalize ((W8.setCell ⟨w.heap.size + 1, 0, none⟩ (.int .i64 0)).setCell ⟨w.heap.size + 1, 1, none⟩ (.int .i64 0)) = W9 at *
  obtain ⟨p0, p1, p2, _, _⟩ := t4
  obtain ⟨r0, r1, r2, _, _⟩ := t5
  refine bodyPost_ret (by simp [results, Try.results26, go_sem, p1, p2, r1, r2]; try rfl) rfl ?_
  exact ⟨rfl, hb8⟩
end Go.Proofs.Ytffblmhaoekkgaa.prp
