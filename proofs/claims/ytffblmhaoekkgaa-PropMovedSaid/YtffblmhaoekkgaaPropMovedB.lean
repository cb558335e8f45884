/- PropMoved: the law's body. -/
import Derived.Test.YtffblmhaoekkgaaPrpAE
import Derived.Test.YtffblmhaoekkgaaKW
import Derived.Deep.CutRange
import Derived.Deep.CutBlock
namespace Go.Proofs.Ytffblmhaoekkgaa.prp
open Go.RowKit
set_option linter.unusedSimpArgs false
set_option linter.unusedVariables false
open Go.Proofs.Ytffblmhaoekkgaa.ev (works_any)

/-- the least number of stones that may tip, looked for downwards -/
def wdTo (l : List Sn) : Nat → Nat
  | 0 => 0
  | i + 1 => if standsS (l.take (l.length - i)) then wdTo l i else l.length - i
theorem wdTo_lay (l : List Sn) : ∀ i, i ≤ l.length → (layTo l l.length).getD 0 = (layTo l (l.length - i)).getD (wdTo l i)
  | 0, _ => by simp [wdTo]
  | i + 1, h => by
    rw [wdTo_lay l i (by omega)]
    have e : l.length - i = (l.length - (i + 1)) + 1 := by omega
    have e2 : layTo l (l.length - i) = (layTo l (l.length - (i + 1))).or (if standsS (l.take (l.length - i)) then none else some (l.length - i)) := by
      rw [e]; rfl
    rw [e2]
    have e3 : wdTo l (i + 1) = if standsS (l.take (l.length - i)) then wdTo l i else l.length - i := rfl
    rw [e3]
    cases layTo l (l.length - (i + 1)) <;> cases standsS (l.take (l.length - i)) <;> rfl
theorem layTo_pos (l : List Sn) : ∀ k n, layTo l k = some n → 1 ≤ n
  | 0, n, h => by cases h
  | k + 1, n, h => by
    have e : layTo l (k + 1) = (layTo l k).or (if standsS (l.take (k + 1)) then none else some (k + 1)) := rfl
    rw [e] at h
    cases h1 : layTo l k with
    | some m => rw [h1] at h; injection h with h; subst h; exact layTo_pos l k m h1
    | none =>
      rw [h1] at h
      simp at h
      omega
theorem mvS_zero (l : List Sn) (k : Nat) : mvS l k 0 = l := by
  refine ext_getD (mvS_length _ _ _) fun i hi => ?_
  rw [mvS_length] at hi
  unfold mvS
  rw [mvTo_get _ _ _ _ _ hi]
  split
  · unfold mv1; simp
  · rfl

set_option maxRecDepth 100000 in
set_option maxHeartbeats 8000000 in
theorem PropMoved_any (xs : List Int) (x1 : Int) (hxl : xs.length = 21) (hxo : ∀ x ∈ xs, 0 ≤ x ∧ x ≤ 255) (hx1 : 0 ≤ x1 ∧ x1 ≤ 255) (w : World) :
    Calls Try.prog 5 #[.agg (flatU xs).toArray, .int .u8 x1] w fun e w' => e = .returned (.bool true) ∧ Below w.heap.size w w' := by
  have hx0 := hxo _ (getD_mem xs 0 0 (by omega))
  obtain ⟨n, hn⟩ : ∃ n : Nat, (n : Int) = 1 + xs.getD 0 0 % 5 := ⟨(1 + xs.getD 0 0 % 5).toNat, by omega⟩
  have n1 : 1 ≤ n := by omega
  have n5 : n ≤ 5 := by omega
  have hE := made_err xs hxo hxl n n1 n5
  have hsm := made_small xs hxo hxl n n5
  have CM := Lib.hid (fun W => made_any xs n W hxl hxo hn)
  have hlen := madeTo_length xs n
  generalize hl : madeTo xs n = l at *
  have hok := (errP_ok hE).2.2
  have HE := Lib.hid hE
  have HOK := Lib.hid hok
  have HSM := Lib.hid hsm
  subst hlen
  have hH := Hc.of (Here.start1 w xs 25)
  have HXL := Lib.hid hxl
  have hL0 : (l.length : Int) ≠ 0 := by omega
  have hKt : x1.tmod (l.length : Int) = x1 % (l.length : Int) := Int.tmod_eq_emod_of_nonneg hx1.1
  have hKm := Int.emod_nonneg x1 hL0
  have hKl := Int.emod_lt_of_pos x1 (show (0 : Int) < (l.length : Int) by omega)
  obtain ⟨K, hK⟩ : ∃ K : Nat, x1.tmod (l.length : Int) = (K : Int) := ⟨(x1 % (l.length : Int)).toNat, by omega⟩
  have hKlt : K < l.length := by omega
  clear hl hE hok hx0 hn hxo hxl hKt hKm hKl hsm
  go_enter Try.func5, Try.ntmps5
  go_upto_region 1 with fail
  generalize (w.alloc (.cells (flatU xs).toArray 25)) = W0 at *
  have HH := Lib.hid hH
  clear hH
  go_upto_region 2 with (first
    | (refine wpList_loadH xs HXL.out _ (HH.out.b (B := w.heap.size) (by simp)) (.tmp 2) rfl rfl rfl ?_)
    | (go_at_call 12; refine (CM.out _).mono ?_; rintro e W1 ⟨q, c, rfl, hr, hq, hc, hb⟩))
  have HH1 := Lib.hid ((HH.out.go hb).add hr)
  have HCP := Lib.hid hc
  have HQS := Lib.hid (show ∀ a, q = some a → a.block < W1.heap.size from fun a ha => (hq a ha).2)
  have A0 : Below W1.heap.size W1 (W1.alloc (.cells #[.slice q l.length c] 27)) := (Below.refl _ _).alloc (Nat.le_refl _) _
  have HH2 := Lib.hid ((HH1.out.go A0).addC (SliceAt.new W1 (.slice q l.length c) 27))
  have hz2 : (W1.alloc (.cells #[.slice q l.length c] 27)).heap.size = W1.heap.size + 1 := by simp
  clear hr hb hq hc A0 HH CM
  generalize (W1.alloc (.cells #[.slice q l.length c] 27)) = W2 at *
  generalize hBP : W1.heap.size = BP at *
  have hlc := (HH2.out.c (B := BP) (v := .slice q l.length c) (by simp)).2
  go_upto_region 3 with fail
  have A0 : Below W2.heap.size W2 (W2.alloc (.cells #[.int .i64 K] 3)) := (Below.refl _ _).alloc (Nat.le_refl _) _
  have HH3 := Lib.hid ((HH2.out.go A0).addC (SliceAt.new W2 (.int .i64 K) 3))
  clear hlc A0
  generalize (W2.alloc (.cells #[.int .i64 K] 3)) = W3 at *
  generalize hBK : W2.heap.size = BK at *
  subst hz2
  have hlc := (HH3.out.c (B := BP) (v := .slice q l.length c) (by simp)).2
  have HL := Lib.hid (Lay_any q c l W3 (HH3.out.r (by simp)) HE.out HCP.out)
  go_upto_region 4 with (go_at_call 33; refine HL.out.mono ?_; rintro e W4 ⟨rfl, hb4⟩)
  have HH4 := Lib.hid (HH3.out.go hb4)
  have hz4 := hb4.size
  have hz3 := (HH3.out.c (B := BP) (v := .slice q l.length c) (by simp)).1
  clear hlc hb4 HL
  have hlc := (HH4.out.c (B := BP) (v := .slice q l.length c) (by simp)).2
  generalize hV1 : (layV (layTo l l.length)).1 = V1 at *
  generalize hV2 : (layV (layTo l l.length)).2 = V2 at *
  have HV1 := Lib.hid hV1
  have HV2 := Lib.hid hV2
  clear hV1 hV2
  go_wp2
  go_loopw [9, 10] (fun s9 s10 wr => ∃ j : Nat, j ≤ l.length ∧ s10 = .int .i64 ((l.length - j : Nat) : Int) ∧ s9 = .int .i64 (wdTo l j) ∧ Hid (Hc w wr [(q, flatS l)] [(w.heap.size, xs)] [(BP + 1, .int .i64 K), (BP, .slice q l.length c)]) ∧ BP < wr.heap.size) (fun _ s10 _ => (intOf s10).toNat)
  case atStart => exact ⟨0, Nat.zero_le _, rfl, rfl, HH4, by omega⟩
  case round =>
    obtain ⟨j, hj, rfl, rfl, HHr, hzr⟩ := hrel
    have hlr := (HHr.out.c (B := BP) (v := .slice q l.length c) (by simp)).2
    by_cases hlj : j < l.length
    · have hwd : wdTo l (j + 1) = if standsS (l.take (l.length - j)) then wdTo l j else l.length - j := rfl
      obtain ⟨m, hm⟩ : ∃ m, l.length - j = m := ⟨_, rfl⟩
      have hm1 : 1 ≤ m := by omega
      have hml : m ≤ l.length := by omega
      have hwk := weak_any q c (l.take m) wr (by rw [flatS_take]; exact (HHr.out.r (by simp)).take _) (fun a ha => by have := HQS.out a ha; omega) (by rw [List.length_take]; omega) (fun s hs => HOK.out s (List.mem_of_mem_take hs))
      rw [show (l.take m).length = m by rw [List.length_take]; omega] at hwk
      rw [hm, stands_weak] at hwd
      generalize wdTo l j = V at *
      generalize weakS (l.take m) = T at *
      have HW := Lib.hid hwk
      have HWD := Lib.hid hwd
      have hmc : (m : Int) ≤ (c : Int) := by have := HCP.out; omega
      have hm0 : (0 : Int) < (m : Int) := by omega
      have hm5 : (m : Int) ≤ 5 := by omega
      have hmj : l.length - (j + 1) = m - 1 := by omega
      have hms : (m : Int) - 1 = ((m - 1 : Nat) : Int) := by omega
      rw [hm]
      have HMS := Lib.hid hms
      have HMJ := Lib.hid hmj
      clear hwk hwd hms hmj hm
      by_cases ht : T < 0
      · have hn : ¬ 0 ≤ T := by omega
        have HX := Lib.hid (show wdTo l (j + 1) = V by rw [HWD.out]; simp [ht])
        clear ht
        go_wp2_with (go_at_call 13; refine HW.out.mono ?_; rintro e W5 ⟨rfl, hb5⟩)
        have HH5 := Lib.hid (HHr.out.go hb5)
        have hz5 := hb5.size
        clear hb5
        go_roundw
        case rel => exact ⟨j + 1, hlj, by rw [HMJ.out, HMS.out], by rw [HX.out], HH5, by omega⟩
        case measure => simp [intOf]; omega
      · have hn : 0 ≤ T := by omega
        have HX := Lib.hid (show wdTo l (j + 1) = m by rw [HWD.out]; simp [ht])
        clear ht
        go_wp2_with (go_at_call 13; refine HW.out.mono ?_; rintro e W5 ⟨rfl, hb5⟩)
        have HH5 := Lib.hid (HHr.out.go hb5)
        have hz5 := hb5.size
        clear hb5
        go_roundw
        case rel => exact ⟨j + 1, hlj, by rw [HMJ.out, HMS.out], by rw [HX.out], HH5, by omega⟩
        case measure => simp [intOf]; omega
    · obtain rfl : j = l.length := by omega
      have hfin := wdTo_lay l l.length (Nat.le_refl _)
      rw [Nat.sub_self] at hfin
      have hfin2 : (layTo l l.length).getD 0 = wdTo l l.length := hfin
      have hpos := layTo_pos l l.length
      have hV1 := HV1.out
      have hV2 := HV2.out
      have hcase : (V1 = 0 ∧ V2 = 13 ∧ wdTo l l.length = 0) ∨ (V2 = 0 ∧ V1 = (wdTo l l.length : Int) ∧ 0 < wdTo l l.length) := by
        cases hlo : layTo l l.length with
        | none => rw [hlo] at hfin2 hV1 hV2; exact .inl ⟨hV1.symm, hV2.symm, hfin2.symm⟩
        | some m =>
          rw [hlo] at hfin2 hV1 hV2
          have h1 := hpos m hlo
          have h2 : m = wdTo l l.length := hfin2
          refine .inr ⟨hV2.symm, ?_, by omega⟩
          rw [← h2]; exact hV1.symm
      have hcase2 : ((V1 == 0) = true ∧ (V2 == 13) = true ∧ ((wdTo l l.length : Int) == 0) = true) ∨ ((V2 == 0) = true ∧ (V1 == (wdTo l l.length : Int)) = true ∧ 0 < (wdTo l l.length : Int)) := by
        simp only [beq_iff_eq]; omega
      generalize (wdTo l l.length : Int) = Z at *
      have hz10 : ((l.length - l.length : Nat) : Int) ≤ 0 := by omega
      generalize ((l.length - l.length : Nat) : Int) = z10 at *
      have HCS := Lib.hid hcase2
      clear hfin hfin2 hpos hV1 hV2 hcase hcase2 HV1 HV2 hlr
      go_upto_region 10 with fail
      go_cut [59] from 37 to 59 (fun v wx => v = .bool false ∧ wx = wr)
      case first =>
        rcases HCS.out with ⟨a, b, d⟩ | ⟨a, b, d⟩
        · have a2 : (V1 != 0) = false := by simp only [bne, a]; rfl
          have b2 : (V2 != 13) = false := by simp only [bne, b]; rfl
          have d2 : ¬ 0 < Z := by have := of_decide_eq_true d; omega
          go_wp2
          go_meet
          case rel => exact ⟨rfl, rfl⟩
        · have a2 : (V2 != 0) = false := by simp only [bne, a]; rfl
          have b2 : (V1 != Z) = false := by simp only [bne, b]; rfl
          have d2 : (Z == 0) = false := by simp; omega
          go_wp2
          go_meet
          case rel => exact ⟨rfl, rfl⟩
      case rest =>
      obtain ⟨rfl, rfl⟩ := hcut
      have hlc := (HHr.out.c (B := BP) (v := .slice q l.length c) (by simp)).2
      have hkc := (HHr.out.c (B := BP + 1) (v := .int .i64 K) (by simp)).2
      obtain ⟨X, hX⟩ : ∃ b : Bool, standsS l = b := ⟨_, rfl⟩
      have HX := Lib.hid hX
      clear hX HCS
      cases X
      · have hsl := Slack_no q c l K wc (HHr.out.r (by simp)) HE.out hKlt HX.out
        have HSL := Lib.hid hsl
        clear hsl
        go_upto_region 13 with (go_at_call 34; refine HSL.out.mono ?_; rintro e W5 ⟨rfl, hb5⟩)
        have HH5 := Lib.hid (HHr.out.go hb5)
        have hz5 := hb5.size
        clear hlc hkc hb5
        have hlc := (HH5.out.c (B := BP) (v := .slice q l.length c) (by simp)).2
        have hwk := weak_any q c l W5 (HH5.out.r (by simp)) (fun a ha => by have := HQS.out a ha; omega) n5 HOK.out
        have hsw := HX.out
        rw [stands_weak] at hsw
        generalize weakS l = T at *
        have hT : 0 ≤ T := by simp at hsw; exact hsw
        have HW := Lib.hid hwk
        clear hwk hsw
        go_wp2_with (first
          | (go_at_call 13; refine HW.out.mono ?_; rintro e W6 ⟨rfl, hb6⟩)
          | (go_at_call 25; refine (works_any _).mono ?_; rintro e W7 ⟨rfl, hb7⟩))
        go_ret
        exact ⟨rfl, (HH5.out.bel.on hb6).on hb7⟩
      · have hsl := Slack_ok q c l K wc (HHr.out.r (by simp)) HE.out hKlt HX.out
        have HSL := Lib.hid hsl
        clear hsl
        go_upto_region 13 with (go_at_call 34; refine HSL.out.mono ?_; rintro e W5 ⟨r, rfl, hr1, hr2, hr3, hb5⟩)
        have HH5 := Lib.hid (HHr.out.go hb5)
        have hz5 := hb5.size
        have hrs : r < 1048576 := by
          rcases Nat.lt_or_ge r 1048576 with h | h
          · exact h
          · have h1 := hr3 (by omega)
            rw [far_tips HE.out HSM.out hKlt (by omega)] at h1
            cases h1
        have t1 : standsS (mvS l K r) = true := by
          rcases Nat.eq_zero_or_pos r with h | h
          · subst h; rw [show ((0 : Nat) : Int) = 0 from rfl, mvS_zero]; exact HX.out
          · exact hr3 h
        have t2 := hr2 (by omega)
        rw [stands_weak] at t1 t2
        have t1 := of_decide_eq_true t1
        have t2 := of_decide_eq_false t2
        clear hlc hkc hb5 hr1 hr2 hr3
        have hlc := (HH5.out.c (B := BP) (v := .slice q l.length c) (by simp)).2
        have hwk := weak_any q c l W5 (HH5.out.r (by simp)) (fun a ha => by have := HQS.out a ha; omega) n5 HOK.out
        have hsw := HX.out
        rw [stands_weak] at hsw
        generalize weakS l = T at *
        have hT : T < 0 := of_decide_eq_true hsw
        have HW := Lib.hid hwk
        have HM := Lib.hid (fun (d : Int) (hd : 0 ≤ d ∧ d ≤ 100000000) W (hh : Hc w W [(q, flatS l)] [(w.heap.size, xs)] [(BP + 1, .int .i64 K), (BP, .slice q l.length c)]) => moved1_any q c l K d BP (BP + 1) W (hh.r (by simp)) n1 n5 (by omega) HOK.out hd (hh.c (by simp)) (hh.c (by simp)))
        have HWM := Lib.hid (fun (d : Int) (hd : 0 ≤ d ∧ d ≤ 33554432) W g cap base (ho : OwnS W base g cap (mvS l K d)) => weak_any (some ⟨g, 0, none⟩) cap (mvS l K d) W ho.row (fun a ha => by injection ha with ha; subst ha; exact ho.lt.2) (by rw [mvS_length]; exact n5) (mvS_ok HE.out K hd))
        simp only [mvS_length] at HWM
        have hrI : (r : Int) < 1048576 := by omega
        have hr0 : (0 : Int) ≤ (r : Int) := by omega
        clear hwk hsw hrs
        generalize (r : Int) = R at *
        have n1R : ¬ R < 0 := by omega
        have n2R : ¬ 1048576 < R := by omega
        have HRI := Lib.hid hrI
        have HR0 := Lib.hid hr0
        have HT1 := Lib.hid t1
        have HT2 := Lib.hid t2
        clear hrI hr0 t1 t2
        go_upto_region 18 with (go_at_call 13; refine HW.out.mono ?_; rintro e W6 ⟨rfl, hb6⟩)
        have HH6 := Lib.hid (HH5.out.go hb6)
        clear hb6 hlc HW
        clear t1 t2
        have t1 := HT1.out
        have t2 := HT2.out
        clear HT1 HT2
        obtain ⟨S, hS⟩ : ∃ S : Int → List Sn, S = mvS l K := ⟨_, rfl⟩
        simp only [← hS] at t1 t2 HM HWM
        have HSS := Lib.hid hS
        have t3 : 0 ≤ weakS (S (R + 1)) := by omega
        have hRw : R + 1 ≤ 1048576 := by have := HRI.out; omega
        have HHc := HH6
        clear t2 hS
        go_wp2_with (first
          | (go_at_call 35; refine (HM.out _ (by have h1 := HR0.out; have h2 := HRI.out; omega) _ HHc.out).mono ?_; rintro e W7 ⟨g, cap, rfl, ho, hb⟩; replace HHc := Lib.hid (HHc.out.go hb); clear hb)
          | (go_at_call 13; refine (HWM.out _ (by have h1 := HR0.out; have h2 := HRI.out; omega) _ _ _ _ ho).mono ?_; rintro e W8 ⟨rfl, hb⟩; replace HHc := Lib.hid (HHc.out.go hb); clear hb ho)
          | (go_at_call 25; refine (works_any _).mono ?_; rintro e W11 ⟨rfl, hb11⟩))
        go_ret
        exact ⟨rfl, HHc.out.bel.on hb11⟩
end Go.Proofs.Ytffblmhaoekkgaa.prp
