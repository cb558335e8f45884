/- Chapter 7, the walks: sort.Search, Slack; plainly: a far way tips. -/
import Derived.Test.YtffblmhaoekkgaaPrpAD
namespace Go.Proofs.Ytffblmhaoekkgaa.prp
open Go.RowKit
set_option linter.unusedSimpArgs false
set_option linter.unusedVariables false

set_option maxRecDepth 100000 in
set_option maxHeartbeats 4000000 in
theorem Search_any (pf : Nat) (lb : Array Value) (eg : ∀ args w, (callFunc pf args).run Try.prog w = .ok (.enter pf args) w) (p : Nat → Bool) (n : Nat) (hn : n ≤ 1000000000) (w : World)
    (hc : ∀ i, i < n → ∀ W, Below w.heap.size w W → Calls Try.prog pf (#[.int .i64 i] ++ lb) W fun e w' => e = .returned (.bool (p i)) ∧ Below W.heap.size W w') :
    Calls Try.prog 71 #[.int .i64 n, .func (.func pf) #[] lb] w fun e w' => ∃ r : Nat, e = .returned (.int .i64 r) ∧ r ≤ n ∧ (r < n → p r = true) ∧ (0 < r → p (r - 1) = false) ∧ Below w.heap.size w w' := by
  have EG := Lib.hid eg
  have HC := Lib.hid hc
  have hn64 : (n : Int) ≤ 1000000000 := by omega
  clear eg hc
  go_enter Try.func71, Try.ntmps71
  go_wp2
  go_loopw [5, 6] (fun s5 s6 wr => ∃ lo hi : Nat, s5 = .int .i64 lo ∧ s6 = .int .i64 hi ∧ lo ≤ hi ∧ hi ≤ n ∧ Hid ((hi < n → p hi = true) ∧ (0 < lo → p (lo - 1) = false)) ∧ Hid (Below w.heap.size w wr)) (fun s5 s6 _ => (intOf s6).toNat - (intOf s5).toNat)
  case atStart => exact ⟨0, n, rfl, rfl, Nat.zero_le _, Nat.le_refl _, Lib.hid ⟨fun h => by omega, fun h => by omega⟩, Lib.hid (Below.refl _ _)⟩
  case round =>
    obtain ⟨lo, hi, rfl, rfl, hlh, hin, HI, HB⟩ := hrel
    by_cases hlt : lo < hi
    · have hc := HC.out ((lo + hi) / 2) (by omega) wr HB.out
      rw [show (((lo + hi) / 2 : Nat) : Int) = ((lo : Int) + (hi : Int)) / 2 by omega] at hc
      cases hp : p ((lo + hi) / 2) <;> rw [hp] at hc
      · have HP := Lib.hid hp
        have HC1 := Lib.hid hc
        clear hp hc
        go_upto_region 4 with fail
        go_wp2
        rw [EG.out, Oper.upon_enter]
        refine HC1.out.mono ?_
        rintro e w2 ⟨rfl, hb2⟩
        dsimp only
        have HB2 := Lib.hid (HB.out.on hb2)
        clear hb2
        go_wp2
        go_roundw
        case rel => exact ⟨(lo + hi) / 2 + 1, hi, by rw [show ((lo : Int) + (hi : Int)) / 2 + 1 = (((lo + hi) / 2 + 1 : Nat) : Int) by omega], rfl, by omega, hin, Lib.hid ⟨HI.out.1, fun _ => by rw [show (lo + hi) / 2 + 1 - 1 = (lo + hi) / 2 by omega]; exact HP.out⟩, HB2⟩
        case measure => simp [intOf]; omega
      · have HP := Lib.hid hp
        have HC1 := Lib.hid hc
        clear hp hc
        go_upto_region 4 with fail
        go_wp2
        rw [EG.out, Oper.upon_enter]
        refine HC1.out.mono ?_
        rintro e w2 ⟨rfl, hb2⟩
        dsimp only
        have HB2 := Lib.hid (HB.out.on hb2)
        clear hb2
        go_wp2
        go_roundw
        case rel => exact ⟨lo, (lo + hi) / 2, rfl, by rw [show ((lo : Int) + (hi : Int)) / 2 = (((lo + hi) / 2 : Nat) : Int) by omega], by omega, by omega, Lib.hid ⟨fun _ => HP.out, HI.out.2⟩, HB2⟩
        case measure => simp [intOf]; omega
    · obtain rfl : hi = lo := by omega
      go_wp2
      go_ret
      exact ⟨hi, rfl, hin, HI.out.1, HI.out.2, HB.out⟩
theorem mvS_ok {l : List Sn} (hE : errP l = 0) (k : Nat) {d : Int} (hd : 0 ≤ d ∧ d ≤ 33554432) : ∀ s ∈ mvS l k d, okS s := by
  intro s hs
  unfold mvS mvTo at hs
  obtain ⟨i, hi, rfl⟩ := List.mem_map.1 hs
  have h0 := (stErr_iff _).1 (((errP_iff l).1 hE).2 _ (getD_mem l i zs (List.mem_range.1 hi)))
  generalize l.getD i zs = t at *
  split
  · unfold mv1 okS; simp only; omega
  · unfold okS; omega
theorem mvS_length (l : List Sn) (k : Nat) (d : Int) : (mvS l k d).length = l.length := mvTo_length _ _ _ _
set_option maxRecDepth 100000 in
set_option maxHeartbeats 4000000 in
theorem slack1_any (q : Option Addr) (c : Nat) (l : List Sn) (k : Nat) (i : Nat) (B1 B2 : Nat) (w : World) (hr : RowV w q (flatS l)) (hE : errP l = 0) (hk : k < l.length) (hi : i < 33554432)
    (hc1 : SliceAt w B1 (.slice q l.length c)) (hc2 : SliceAt w B2 (.int .i64 k)) :
    Calls Try.prog 72 #[.int .i64 i, .pointer (some ⟨B1, 0, none⟩), .pointer (some ⟨B2, 0, none⟩)] w fun e w' => e = .returned (.bool (!standsS (mvS l k ((i : Int) + 1)))) ∧ Below w.heap.size w w' := by
  obtain ⟨h1, h5, hok⟩ := errP_ok hE
  have hmv := moved_any q c l k ((i : Int) + 1) w hr h1 h5 (by omega) hok (by omega)
  have hst := fun g cap W (ho : OwnS W w.heap.size g cap (mvS l k ((i : Int) + 1))) => stands_any (some ⟨g, 0, none⟩) cap (mvS l k ((i : Int) + 1)) W ho.row (by rw [mvS_length]; exact h5) (mvS_ok hE k (by omega))
  rw [mvS_length] at hst
  generalize standsS (mvS l k ((i : Int) + 1)) = b at *
  have HM := Lib.hid hmv
  have HS := Lib.hid hst
  obtain ⟨z1, y1⟩ := hc1
  obtain ⟨z2, y2⟩ := hc2
  have hi2 : (i : Int) + 1 ≤ 33554432 := by omega
  clear hmv hst hr hok hE
  go_enter Try.func72, Try.ntmps72
  go_wp2_with (first
    | (go_at_call 73; refine HM.out.mono ?_; rintro e W1 ⟨g, cap, rfl, hown, hb1⟩)
    | (go_at_call 53; refine (HS.out _ _ _ hown).mono ?_; rintro e W2 ⟨rfl, hb2⟩))
  go_ret
  exact ⟨rfl, hb1.on hb2⟩
set_option maxRecDepth 100000 in
set_option maxHeartbeats 4000000 in
theorem Slack_no (q : Option Addr) (c : Nat) (l : List Sn) (k : Nat) (w : World) (hr : RowV w q (flatS l)) (hE : errP l = 0) (hk : k < l.length) (hs : standsS l = false) :
    Calls Try.prog 34 #[.slice q l.length c, .int .i64 k] w fun e w' => e = .returned (.tuple #[.int .i64 0, .int .i64 12]) ∧ Below w.heap.size w w' := by
  obtain ⟨h1, h5, hok⟩ := errP_ok hE
  have hpl : placeErr l k = 0 := by rw [place_of hE, if_neg (by omega)]
  have hcp := fun W (hb : Below w.heap.size w W) => checkPlace_any q c l k W (hr.below (Nat.le_refl _) hb) (by omega)
  rw [hpl] at hcp
  have hst := fun W (hb : Below w.heap.size w W) => stands_any q c l W (hr.below (Nat.le_refl _) hb) h5 hok
  rw [hs] at hst
  have HCP := Lib.hid hcp
  have HST := Lib.hid hst
  have hb0 : Below w.heap.size w ((w.alloc (.cells #[.slice q l.length c] 27)).alloc (.cells #[.int .i64 k] 3)) := ((Below.refl _ _).alloc (Nat.le_refl _) _).alloc (by simp) _
  have s1 := (SliceAt.new w (.slice q l.length c) 27).below (N := w.heap.size + 1) (by omega) ((Below.refl _ _).alloc (by simp) (.cells #[.int .i64 k] 3))
  have s2 := SliceAt.new (w.alloc (.cells #[.slice q l.length c] 27)) (.int .i64 k) 3
  have hz : (w.alloc (.cells #[.slice q l.length c] 27)).heap.size = w.heap.size + 1 := by simp
  rw [hz] at s2
  clear hcp hst hpl hr hok hE hs hz
  go_enter Try.func34, Try.ntmps34
  go_upto_region 1 with fail
  generalize ((w.alloc (.cells #[.slice q l.length c] 27)).alloc (.cells #[.int .i64 k] 3)) = W0 at *
  have y1 := s1.2
  have y2 := s2.2
  go_upto_region 2 with (go_at_call 60; refine (HCP.out _ hb0).mono ?_; rintro e W1 ⟨rfl, hb1⟩)
  have y3 := (s1.below s1.1 hb1).2
  go_wp2_with (go_at_call 53; refine (HST.out _ (hb0.on hb1)).mono ?_; rintro e W2 ⟨rfl, hb2⟩)
  go_ret2
  exact ⟨rfl, (hb0.on hb1).on hb2⟩
set_option maxRecDepth 100000 in
set_option maxHeartbeats 4000000 in
theorem Slack_ok (q : Option Addr) (c : Nat) (l : List Sn) (k : Nat) (w : World) (hr : RowV w q (flatS l)) (hE : errP l = 0) (hk : k < l.length) (hs : standsS l = true) :
    Calls Try.prog 34 #[.slice q l.length c, .int .i64 k] w fun e w' => ∃ r : Nat, e = .returned (.tuple #[.int .i64 r, .int .i64 0]) ∧ r ≤ 33554432 ∧ (r < 33554432 → standsS (mvS l k ((r : Int) + 1)) = false) ∧ (0 < r → standsS (mvS l k r) = true) ∧ Below w.heap.size w w' := by
  obtain ⟨h1, h5, hok⟩ := errP_ok hE
  have hpl : placeErr l k = 0 := by rw [place_of hE, if_neg (by omega)]
  have hcp := fun W (hb : Below w.heap.size w W) => checkPlace_any q c l k W (hr.below (Nat.le_refl _) hb) (by omega)
  rw [hpl] at hcp
  have hst := fun W (hb : Below w.heap.size w W) => stands_any q c l W (hr.below (Nat.le_refl _) hb) h5 hok
  rw [hs] at hst
  have HCP := Lib.hid hcp
  have HST := Lib.hid hst
  have hb0 : Below w.heap.size w ((w.alloc (.cells #[.slice q l.length c] 27)).alloc (.cells #[.int .i64 k] 3)) := ((Below.refl _ _).alloc (Nat.le_refl _) _).alloc (by simp) _
  have s1 := (SliceAt.new w (.slice q l.length c) 27).below (N := w.heap.size + 1) (by omega) ((Below.refl _ _).alloc (by simp) (.cells #[.int .i64 k] 3))
  have s2 := SliceAt.new (w.alloc (.cells #[.slice q l.length c] 27)) (.int .i64 k) 3
  have hz : (w.alloc (.cells #[.slice q l.length c] 27)).heap.size = w.heap.size + 1 := by simp
  rw [hz] at s2
  have HR := Lib.hid hr
  have HE := Lib.hid hE
  clear hcp hst hpl hr hok hE hs hz
  go_enter Try.func34, Try.ntmps34
  go_upto_region 1 with fail
  generalize ((w.alloc (.cells #[.slice q l.length c] 27)).alloc (.cells #[.int .i64 k] 3)) = W0 at *
  have y1 := s1.2
  have y2 := s2.2
  go_upto_region 2 with (go_at_call 60; refine (HCP.out _ hb0).mono ?_; rintro e W1 ⟨rfl, hb1⟩)
  have t1 := s1.below s1.1 hb1
  have t2 := s2.below s2.1 hb1
  have hbw := hb0.on hb1
  have y3 := t1.2
  clear s1 s2 hb0 hb1 y1 y2
  go_upto_region 6 with (go_at_call 53; refine (HST.out _ hbw).mono ?_; rintro e W2 ⟨rfl, hb2⟩)
  have u1 := t1.below t1.1 hb2
  have u2 := t2.below t2.1 hb2
  have hbx := hbw.on hb2
  have hse := Search_any 72 #[.pointer (some ⟨w.heap.size, 0, none⟩), .pointer (some ⟨w.heap.size + 1, 0, none⟩)] (fun args w => rfl) (fun i => !standsS (mvS l k ((i : Int) + 1))) 33554432 (by omega) W2
    (fun i hi W hb => slack1_any q c l k i w.heap.size (w.heap.size + 1) W (HR.out.below (Nat.le_refl _) (hbx.on hb)) HE.out hk hi (u1.below u1.1 hb) (u2.below u2.1 hb))
  have HSE := Lib.hid hse
  have HBX := Lib.hid hbx
  clear t1 t2 hbw y3 hb2 u1 u2 hse hbx
  go_wp2_with (go_at_call 71; refine HSE.out.mono ?_; rintro e W3 ⟨r, rfl, hr1, hr2, hr3, hb3⟩)
  go_ret2
  refine ⟨r, rfl, hr1, fun h => by simpa using hr2 h, fun h => ?_, HBX.out.on hb3⟩
  have := hr3 h
  rw [show ((r - 1 : Nat) : Int) + 1 = (r : Int) by omega] at this
  simpa using this
/-! plainly: moved far, a level tips -/
theorem made_small (xs : List Int) (hx : ∀ x ∈ xs, 0 ≤ x ∧ x ≤ 255) (hl : xs.length = 21) (n : Nat) (h5 : n ≤ 5) : ∀ s ∈ madeTo xs n, (-1000 ≤ s.at_ ∧ s.at_ ≤ 1000) ∧ s.half ≤ 12 := by
  intro s hs
  unfold madeTo at hs
  obtain ⟨k, hk, rfl⟩ := List.mem_map.1 hs
  have hk := List.mem_range.1 hk
  have he := edgeTo_bd xs hx hl k (by omega)
  have h0 := hx _ (getD_mem xs (1 + k * 4) 0 (by omega))
  have h1 := hx _ (getD_mem xs (1 + k * 4 + 1) 0 (by omega))
  unfold stoneAt made1
  generalize edgeTo xs k = e at *
  generalize xs.getD (1 + k * 4) 0 = x0 at *
  generalize xs.getD (1 + k * 4 + 1) 0 = x1 at *
  dsimp only
  omega
theorem far_tips {l : List Sn} (hE : errP l = 0) (hsm : ∀ s ∈ l, (-1000 ≤ s.at_ ∧ s.at_ ≤ 1000) ∧ s.half ≤ 12) {k : Nat} (hk : k < l.length) {d : Int} (hd : 1048576 ≤ d ∧ d ≤ 33554432) : standsS (mvS l k d) = false := by
  have hok := mvS_ok hE k (d := d) (by omega)
  rw [Bool.eq_false_iff]
  intro h
  unfold standsS at h
  have h1 := List.all_eq_true.1 h k (List.mem_range.2 (by rw [mvS_length]; exact hk))
  unfold mayTipS at h1
  simp only [Bool.not_eq_true', List.any_eq_false, decide_eq_true_eq] at h1
  have h2 := h1 1 (by unfold sidesS; split <;> simp)
  refine h2 ?_
  have hb := leanS_bnd hok k 1 (edgeS (mvS l k d) k 1)
  rw [momS_sum]
  refine psum_pos _ _ _ (by rw [mvS_length]; exact hk) fun i a b => ?_
  rw [mvS_length] at b
  have hw := (hb.2 i (by rw [mvS_length]; exact b)).1
  have hs := hok _ (getD_mem _ i zs (by rw [mvS_length]; exact b))
  unfold okS at hs
  have hat : ((mvS l k d).getD i zs).at_ = (l.getD i zs).at_ + d := by
    unfold mvS; rw [mvTo_get _ _ _ _ _ b, if_pos ⟨a, b⟩]; rfl
  have hsi := hsm _ (getD_mem l i zs b)
  have hed : edgeS (mvS l k d) k 1 ≤ 1012 := by
    unfold edgeS
    by_cases h0 : k = 0
    · rw [if_pos h0]; omega
    · rw [if_neg h0]
      unfold mvS
      rw [mvTo_get _ _ _ _ _ (by omega), if_neg (by omega)]
      have := hsm _ (getD_mem l (k - 1) zs (by omega))
      omega
  rw [hat]
  have e : worstS (mvS l k d) k 1 = leanS (mvS l k d) k 1 (edgeS (mvS l k d) k 1) := rfl
  rw [e]
  refine Int.mul_pos (by omega) ?_
  omega
end Go.Proofs.Ytffblmhaoekkgaa.prp
