/- Helpers of the law: the closure of plans, called with no channel chosen yet. -/
import Derived.Test.YtadamjleglckpaaGreatQa4
import Derived.Test.YtadamjleglckpaaGreatQa1
import Derived.Shelf.SlSortCmp.Whole1
import Derived.Shelf.Lay
import Derived.Ground.SlsfProg
import Derived.Test.YtadamjleglckpaaGreatQa2
import Derived.Lib.SliceRun
import Derived.Laws.OwnMore
import Derived.Shelf.SortG.Plain
import Derived.Ground.SlgnProg

namespace Go.Proofs.YtadamjleglckpaaGreat.drn
open Go.RowKit
set_option linter.unusedSimpArgs false
set_option linter.unusedVariables false
set_option maxRecDepth 100000 in
set_option maxHeartbeats 8000000 in
theorem put_top (hso : SortOk) (B n cap : Nat) (q : Option Addr) (cs : List Ch) (h1 : 1 ≤ n) (hn : n ≤ 6) (hcm : cs.length ≤ 14) (hcs : ∀ c ∈ cs, ChOk n c) (k : Nat) (v : Value) (vs : List Value) (ls : List (List Int)) (w : World)
    (hk : k + 1 = n) (hC : PutC w B n q cap cs) (hO : OutP w B v vs ls) (hlen : ls.length + (putS n cs (k + 1) [] []).length ≤ 16384) :
    Calls Tryz.prog 80 #[.slice none 0 0, .slice none 0 0, .pointer (some ⟨B + 2, 0, none⟩), .pointer (some ⟨B, 0, none⟩), .pointer (some ⟨B + 3, 0, none⟩), .pointer (some ⟨B + 1, 0, none⟩)] w (PutPost w B v (ls ++ (putS n cs (k + 1) [] []).map sortI)) := by
    have ih := put_any hso B n cap q cs h1 hn hcm hcs k
    have HIH := Lib.hid ih
    have HSO := Lib.hid hso
    have HCS := Lib.hid hcs
    have HK := Lib.hid hk
    have HC := Lib.hid hC
    have HLEN := Lib.hid hlen
    have HOB := Lib.hid hO.ob
    have HBS := Lib.hid hC.size
    have HHCS := Lib.hid hcm
    have hmn : (0 : Int) < (n : Int) := by omega
    obtain ⟨x0, x1, x2, x3, x4⟩ := hC.hill
    have x5 := hC.num
    obtain ⟨L, hL⟩ : ∃ L, cs.length = L := ⟨_, rfl⟩
    have HL := Lib.hid hL
    rw [hL] at x2 hcm
    have hst : Hid (OutP w B v vs ls) := Lib.hid hO
    clear ih hso hcs hk hC hO hlen hL
    have hdn : decide (0 < n) = true := by simp; omega
    go_enter Tryz.func80, Tryz.ntmps80
    go_wp2
    (try simp only [hdn])
    go_loopw [19] (fun i wr => ∃ (j : Nat) (v' : Value) (vs' : List Value) (ls' : List (List Int)), j ≤ L ∧ i = .int .i64 (j : Int) ∧ Hid (OutP wr B v' vs' ls') ∧ Hid (ls' ++ (putFrom n cs k j [] []).map sortI = ls ++ (putS n cs (k + 1) [] []).map sortI) ∧ Hid (PFr B v.ownBlock w wr) ∧ Hid (v'.ownBlock = v.ownBlock ∨ ∃ g, v'.ownBlock = some g ∧ w.heap.size ≤ g)) (fun i _ => L - (intOf i).toNat)
    case atStart => exact ⟨0, v, vs, ls, Nat.zero_le _, rfl, hst, Lib.hid (by rw [putFrom_zero]), Lib.hid (PFr.refl _ _ _), Lib.hid (.inl rfl)⟩
    case round =>
      obtain ⟨j, v', vs', ls', hj, rfl, HO, HE, HF, HV⟩ := hrel
      by_cases hjl : j < L
      · have hC2 := HC.out.go (fun g hg => (HOB.out g hg).1) HF.out
        obtain ⟨b, off, rfl, hz, g1, g2, g3⟩ := rowT_at hC2.row (k := j) (by have := HL.out; omega) (Nat.le_refl _) (Below.refl _ _)
        obtain ⟨y0, y1, y2, y3, y4⟩ := hC2.hill
        have hok := HCS.out _ (getD_inl cs j (0, 0, 0) (by have := HL.out; omega))
        have hE2 := putFrom_step n cs k j [] [] (by have := HL.out; omega)
        obtain ⟨c1, hc1⟩ : ∃ x, (cs.getD j (0, 0, 0)).1 = x := ⟨_, rfl⟩
        obtain ⟨c2, hc2⟩ : ∃ x, (cs.getD j (0, 0, 0)).2.1 = x := ⟨_, rfl⟩
        obtain ⟨c3, hc3⟩ : ∃ x, (cs.getD j (0, 0, 0)).2.2 = x := ⟨_, rfl⟩
        have e1 : (chAt cs j).1 = c1 := hc1
        have e2 : (chAt cs j).2.1 = c2 := hc2
        rw [hc1] at g1
        rw [hc2] at g2
        rw [hc3] at g3
        rw [e1, e2] at hE2
        simp only [List.length_nil, List.nil_append] at hE2
        have HOK := Lib.hid hok
        have HC1 := Lib.hid hc1
        have HC2 := Lib.hid hc2
        have HE2 := Lib.hid hE2
        have HCC := Lib.hid hC2
        have hjL : (j : Int) < (L : Int) := by omega
        clear hok hc1 hc2 hc3 e1 e2 hE2 hC2 x0 x1 x2 x3 x4 x5
        go_upto_region 4 with fail
        have hal : Below wr.heap.size wr (wr.alloc (.cells #[.int .i64 c1, .int .i64 c2, .int .i64 c3] 51)) := (Below.refl _ _).alloc (Nat.le_refl _) _
        have hsz := HF.out.size
        have hB4 := HBS.out
        have HO0 := Lib.hid (HO.out.go hal (by omega))
        have HF0 := Lib.hid (HF.out.same (PFr.of hal))
        have HC0 := Lib.hid (HCC.out.go (ob := none) (by simp) (PFr.of hal))
        have s0 : (wr.alloc (.cells #[.int .i64 c1, .int .i64 c2, .int .i64 c3] 51)).cell? ⟨wr.heap.size, 0, none⟩ = some (.int .i64 c1) := by simp
        have s2 : (wr.alloc (.cells #[.int .i64 c1, .int .i64 c2, .int .i64 c3] 51)).cell? ⟨wr.heap.size, 1, none⟩ = some (.int .i64 c2) := by simp
        have hz9 : wr.heap.size < (wr.alloc (.cells #[.int .i64 c1, .int .i64 c2, .int .i64 c3] 51)).heap.size := by simp
        have hob9 : ∀ g, v'.ownBlock = some g → g < wr.heap.size := fun g hg => (HO.out.ob g hg).2
        have HOB9 := Lib.hid hob9
        obtain ⟨C9, hC9⟩ : ∃ C9, wr.heap.size = C9 := ⟨_, rfl⟩
        have hC9B : B + 4 ≤ C9 := by omega
        rw [hC9] at s0 s2 hz9 HOB9 ⊢
        clear hob9 hal y0 y1 y2 y3 y4 g1 g2 g3 HCC HO HF
        generalize (wr.alloc (.cells #[.int .i64 c1, .int .i64 c2, .int .i64 c3] 51)) = W0 at *
        by_cases heq : c1 = ((0 : Nat) : Int)
        · have f1 : (c1 == 0) = true := by simp [heq]
          have s1 := HC0.out.self
          unfold putV at s1
          have hB3 : B + 3 < W0.heap.size := by have := HC0.out.size; omega
          have HJ := Lib.hid (show Jp W0 W0 [] [] from ⟨Below.refl _ _, by simp, by simp⟩)
          have HEQ := Lib.hid heq
          have hcall : ∀ (W' : World) (a1 d1 a2 d2 : Nat) (nc : List (Nat × Value)) (rows : List (Nat × List Int)), Jp W0 W' nc rows → (a1, [(j : Int)]) ∈ rows → (a2, [c2]) ∈ rows → 1 ≤ d1 → 1 ≤ d2 →
              Calls Tryz.prog 80 #[.slice (some ⟨a1, 0, none⟩) 1 d1, .slice (some ⟨a2, 0, none⟩) 1 d2, .pointer (some ⟨B + 2, 0, none⟩), .pointer (some ⟨B, 0, none⟩), .pointer (some ⟨B + 3, 0, none⟩), .pointer (some ⟨B + 1, 0, none⟩)] W' (PutPost W' B v' (ls' ++ (putS n cs k ([(j : Int)]) ([c2])).map sortI)) := by
            intro W' a1 d1 a2 d2 nc rows hJ h1r h2r hd1 hd2
            obtain ⟨p1, p2, p3⟩ := hJ.row _ h1r
            obtain ⟨r1, r2, r3⟩ := hJ.row _ h2r
            have hzz : C9 < W0.heap.size := hz9
            have hlpN : LP W' B v'.ownBlock (some ⟨a1, 0, none⟩) ([(j : Int)]) := ⟨p3, fun a ha => by injection ha with ha; subst ha; exact ⟨show B + 4 ≤ a1 by omega, fun e => by have := HOB9.out _ e.symm; have : a1 < C9 := this; omega, p2⟩⟩
            have hltN : LP W' B v'.ownBlock (some ⟨a2, 0, none⟩) ([c2]) := ⟨r3, fun a ha => by injection ha with ha; subst ha; exact ⟨show B + 4 ≤ a2 by omega, fun e => by have := HOB9.out _ e.symm; have : a2 < C9 := this; omega, r2⟩⟩
            have hE3 := HE2.out
            rw [if_pos HEQ.out] at hE3
            have hl3 : ls'.length + (putS n cs k ([(j : Int)]) ([c2])).length ≤ 16384 := by
              have := congrArg List.length HE.out
              rw [hE3] at this
              simp only [List.length_append, List.length_map] at this
              have := HLEN.out
              omega
            have hok := HOK.out
            have hc2b : 0 ≤ c2 ∧ c2 ≤ n := by rw [← HC2.out]; exact hok.2.1
            have := HIH.out (some ⟨a1, 0, none⟩) (some ⟨a2, 0, none⟩) d1 d2 ([(j : Int)]) ([c2]) v' vs' ls' W' (by have := HK.out; simp; omega) (by simp)
              (fun x hx => by simp at hx; subst hx; exact hc2b) (HC0.out.go (ob := none) (by simp) (PFr.of hJ.bel)) (HO0.out.go hJ.bel (by omega)) hlpN hltN ⟨_, _, rfl, rfl, by simp⟩ (by simpa using hd1) (by simpa using hd2) hl3
            rw [List.length_singleton, List.length_singleton] at this
            exact this
          have HCALL := Lib.hid hcall
          clear hcall heq
          go_upto_region 5 with fail
          · skip
            go_region_held3 (fun W => W.cell? ⟨B + 3, 0, none⟩ = some (.func (.func 80) #[] #[.pointer (some ⟨B + 2, 0, none⟩), .pointer (some ⟨B, 0, none⟩), .pointer (some ⟨B + 3, 0, none⟩), .pointer (some ⟨B + 1, 0, none⟩)]) ∧ W.cell? ⟨C9, 1, none⟩ = some (.int .i64 c2)) (first | exact ⟨s1, s2⟩ | exact ⟨t1, t2⟩ | exact ⟨(HJ.out.bel.cell (p := ⟨B + 3, 0, none⟩) hB3).trans s1, (HJ.out.bel.cell (p := ⟨C9, 1, none⟩) hz9).trans s2⟩ | go_keep)
              (first
                | (refine step_full (W0 := W0) (by first | exact HJ.out.alloc.drew | exact HJ.out.alloc.alloc.drew | exact HJ.out.alloc | exact HJ.out) (by rfl) (.tmp 35) (.tmp 37) (by rfl) none [] (j : Int) 0 rfl (by rfl) (.inl rfl) (fun _ => rfl) _ _ (by rfl) (by simp) (by omega) ?_; intro d1 W1 HJ1 hd1; have HJ := Lib.hid HJ1; clear HJ1)
                | (refine step_full (W0 := W0) (by first | exact HJ.out.alloc.drew | exact HJ.out.alloc.alloc.drew | exact HJ.out.alloc | exact HJ.out) (by rfl) (.tmp 44) (.tmp 47) (by rfl) none [] c2 0 rfl (by rfl) (.inl rfl) (fun _ => rfl) _ _ (by rfl) (by simp) (by omega) ?_; intro d2 W1 HJ1 hd2; have HJ := Lib.hid HJ1; clear HJ1)
                | (go_at_call 80; refine (HCALL.out _ _ _ _ _ _ _ HJ.out (by simp) (by simp) hd1 hd2).mono ?_; rintro e W8 ⟨rfl, v8, vs8, hO8, hF8, hV8⟩; have t1 := (hF8.cell (b := B + 3) (i := 0) (Nat.lt_of_lt_of_le hB3 HJ.out.bel.size) (by omega) (fun e => by have := (HO0.out.ob _ e.symm).1; omega)).trans ((HJ.out.bel.cell (p := ⟨B + 3, 0, none⟩) hB3).trans s1); have t2 := (hF8.cell (b := C9) (i := 1) (Nat.lt_of_lt_of_le hz9 HJ.out.bel.size) (by omega) (fun e => by have := HOB9.out _ e.symm; omega)).trans ((HJ.out.bel.cell (p := ⟨C9, 1, none⟩) hz9).trans s2))
                | fail)
            all_goals
              have hE3 := HE2.out
              rw [if_pos HEQ.out] at hE3
              have HE3 := Lib.hid (show (ls' ++ (putS n cs k ([(j : Int)]) ([c2])).map sortI) ++ (putFrom n cs k (j + 1) [] []).map sortI = ls ++ (putS n cs (k + 1) [] []).map sortI by rw [List.append_assoc, ← List.map_append, ← hE3]; exact HE.out)
              have HF8 := Lib.hid ((HF0.out.same (PFr.of HJ.out.bel)).trans hF8 HV.out)
              have HV8 : Hid (v8.ownBlock = v.ownBlock ∨ ∃ g, v8.ownBlock = some g ∧ w.heap.size ≤ g) := Lib.hid (by
                have hz1 := HF0.out.size
                have hz2 := HJ.out.bel.size
                rcases hV8 with h | ⟨g, h, hg⟩
                · rw [h]; exact HV.out
                · exact .inr ⟨g, h, by omega⟩)
              have HO8 := Lib.hid hO8
              clear hE3 hO8 hF8 hV8 t1 t2
              go_wp2
              go_roundw
              case rel => exact ⟨j + 1, v8, vs8, _, hjl, by go_num, HO8, HE3, HF8, HV8⟩
              case measure => simp [intOf]; omega
        · have heq0 : ¬ c1 = 0 := fun e => heq (by rw [e]; rfl)
          have f1 : (c1 == 0) = false := by simp [heq0]
          have hE3 := HE2.out
          rw [if_neg heq, List.nil_append] at hE3
          have HE3 := Lib.hid (show ls' ++ (putFrom n cs k (j + 1) [] []).map sortI = ls ++ (putS n cs (k + 1) [] []).map sortI by rw [← hE3]; exact HE.out)
          clear hE3 heq heq0
          go_wp2
          go_roundw
          case rel => exact ⟨j + 1, v', vs', ls', hjl, by go_num, HO0, HE3, HF0, HV⟩
          case measure => simp [intOf]; omega
      · obtain rfl : j = L := by omega
        have hE3 := HE.out
        rw [← HL.out, putFrom_end, List.map_nil, List.append_nil] at hE3
        have HFI := Lib.hid (show PutPost w B v (ls ++ (putS n cs (k + 1) [] []).map sortI) (.returned (.tuple #[])) wr from ⟨rfl, v', vs', by rw [← hE3]; exact HO.out, HF.out, HV.out⟩)
        clear hE3
        go_wp2
        first | (refine bodyPost_end (results_none rfl _ _ _) rfl ?_; exact HFI.out) | (refine bodyPost_ret (results_none rfl _ _ _) rfl ?_; exact HFI.out) | trace_state
end Go.Proofs.YtadamjleglckpaaGreat.drn

/- cmp.Compare and slices.Compare at ints. -/
namespace Go.Proofs.YtadamjleglckpaaGreat.drn
open Go.RowKit
set_option linter.unusedSimpArgs false
set_option linter.unusedVariables false
def cmpI : List Int → List Int → Int
  | [], [] => 0
  | [], _ :: _ => -1
  | _ :: _, [] => 1
  | x :: a, y :: b => if x < y then -1 else if y < x then 1 else cmpI a b
theorem cmpI_lex : ∀ a b : List Int, cmpI a b < 0 ↔ List.Lex (· < ·) a b
  | [], [] => by simp [cmpI]
  | [], y :: b => by simp [cmpI]
  | x :: a, [] => by simp [cmpI]
  | x :: a, y :: b => by
    unfold cmpI
    by_cases h1 : x < y
    · rw [if_pos h1]
      exact ⟨fun _ => .rel h1, fun _ => by omega⟩
    · rw [if_neg h1]
      by_cases h2 : y < x
      · rw [if_pos h2]
        refine ⟨fun h => by omega, fun h => ?_⟩
        cases h with
        | rel h => omega
        | cons h => omega
      · rw [if_neg h2]
        obtain rfl : x = y := by omega
        rw [cmpI_lex a b]
        refine ⟨fun h => .cons h, fun h => ?_⟩
        cases h with
        | rel h => omega
        | cons h => exact h
def cmp1 (x y : Int) : Int := if x < y then -1 else if y < x then 1 else 0

set_option maxHeartbeats 400000 in
theorem isNaN_any (x : Int) (w : World) : Calls Tryz.prog 107 #[.int .i64 x] w fun e w' => e = .returned (.bool false) ∧ w = w' := by
  go_enter Tryz.func107, Tryz.ntmps107
  go_wp2
  go_ret
  exact ⟨ret_bool (by simp), rfl⟩

set_option maxHeartbeats 400000 in
theorem cmpC_any (x y : Int) (w : World) : Calls Tryz.prog 62 #[.int .i64 x, .int .i64 y] w fun e w' => e = .returned (.int .i64 (cmp1 x y)) ∧ w = w' := by
  by_cases h1 : x < y
  · have e1 : cmp1 x y = -1 := by rw [cmp1, if_pos h1]
    rw [e1]
    clear e1
    go_enter Tryz.func62, Tryz.ntmps62
    go_wp2_with (go_at_call 107; refine (isNaN_any _ _).mono ?_; rintro e w1 ⟨rfl, rfl⟩)
    go_ret
    exact ⟨rfl, rfl⟩
  · by_cases h2 : y < x
    · have e1 : cmp1 x y = 1 := by rw [cmp1, if_neg h1, if_pos h2]
      rw [e1]
      clear e1
      go_enter Tryz.func62, Tryz.ntmps62
      go_wp2_with (go_at_call 107; refine (isNaN_any _ _).mono ?_; rintro e w1 ⟨rfl, rfl⟩)
      go_ret
      exact ⟨rfl, rfl⟩
    · have e1 : cmp1 x y = 0 := by rw [cmp1, if_neg h1, if_neg h2]
      rw [e1]
      clear e1
      go_enter Tryz.func62, Tryz.ntmps62
      go_wp2_with (go_at_call 107; refine (isNaN_any _ _).mono ?_; rintro e w1 ⟨rfl, rfl⟩)
      go_ret
      exact ⟨rfl, rfl⟩

theorem cmpI_step {xs ys : List Int} {k : Nat} (h1 : k < xs.length) (h2 : k < ys.length) :
    cmpI (xs.drop k) (ys.drop k) = if cmp1 (xs.getD k 0) (ys.getD k 0) = 0 then cmpI (xs.drop (k + 1)) (ys.drop (k + 1)) else cmp1 (xs.getD k 0) (ys.getD k 0) := by
  rw [List.drop_eq_getElem_cons h1, List.drop_eq_getElem_cons h2, cmpI, ← getD_eq xs k 0 h1, ← getD_eq ys k 0 h2]
  unfold cmp1
  split
  · simp
  · split
    · simp
    · simp

set_option maxHeartbeats 400000 in
theorem compare_any (q1 q2 : Option Addr) (c1 c2 : Nat) (xs ys : List Int) (w : World) (h1 : RowV w q1 (flatI xs)) (h2 : RowV w q2 (flatI ys)) (l1 : xs.length ≤ 1000000) (l2 : ys.length ≤ 1000000) :
    Calls Tryz.prog 24 #[.slice q1 xs.length c1, .slice q2 ys.length c2] w fun e w' => e = .returned (.int .i64 (cmpI xs ys)) ∧ w = w' := by
  have H1 := Lib.hid h1
  have H2 := Lib.hid h2
  clear h1 h2
  go_enter Tryz.func24, Tryz.ntmps24
  go_wp2
  go_loop [11] (fun i => ∃ k : Nat, k ≤ xs.length ∧ k ≤ ys.length ∧ i = .int .i64 k ∧ cmpI xs ys = cmpI (xs.drop k) (ys.drop k)) (fun i => xs.length - (intOf i).toNat)
  case atStart => exact ⟨0, Nat.zero_le _, Nat.zero_le _, rfl, rfl⟩
  case round =>
    obtain ⟨k, hk, hk2, rfl, he⟩ := hrel
    by_cases hlt : k < xs.length
    · obtain ⟨b, off, rfl, hb, g1⟩ := rowI_at H1.out hlt (Nat.le_refl _) (Below.refl _ w)
      by_cases hlt2 : k < ys.length
      · obtain ⟨b', off', rfl, hb', g2⟩ := rowI_at H2.out hlt2 (Nat.le_refl _) (Below.refl _ w)
        have hst := cmpI_step hlt hlt2
        rw [hst] at he
        have HE := Lib.hid he
        clear he hst
        generalize xs.getD k 0 = x at g1 HE
        generalize ys.getD k 0 = y at g2 HE
        by_cases hc : cmp1 x y = 0
        · have hcb : (cmp1 x y != 0) = false := by simp [hc]
          have e2 := HE.out.trans (if_pos hc)
          have E2 := Lib.hid e2
          clear hc e2
          go_wp2_with (go_at_call 62; refine (cmpC_any _ _ _).mono ?_; rintro e w1 ⟨rfl, rfl⟩)
          go_round
          case rel => exact ⟨k + 1, hlt, hlt2, by go_num, E2.out⟩
          case measure => simp [intOf]; omega
        · have hcb : (cmp1 x y != 0) = true := by simp [hc]
          have e2 := HE.out.trans (if_neg hc)
          have E2 := Lib.hid e2
          clear hc e2
          go_wp2_with (go_at_call 62; refine (cmpC_any _ _ _).mono ?_; rintro e w1 ⟨rfl, rfl⟩)
          go_ret
          exact ⟨ret_int E2.out.symm, rfl⟩
      · obtain rfl : k = ys.length := by omega
        have e3 : cmpI xs ys = 1 := by
          rw [he, List.drop_length, List.drop_eq_getElem_cons hlt]; rfl
        have E3 := Lib.hid e3
        clear e3 he
        go_wp2
        go_ret
        exact ⟨ret_int E3.out.symm, rfl⟩
    · obtain rfl : k = xs.length := by omega
      by_cases hlt2 : xs.length < ys.length
      · have e3 : cmpI xs ys = -1 := by
          rw [he, List.drop_length, List.drop_eq_getElem_cons hlt2]; rfl
        have E3 := Lib.hid e3
        clear e3 he
        go_wp2
        go_ret
        exact ⟨ret_int E3.out.symm, rfl⟩
      · have e3 : cmpI xs ys = 0 := by
          rw [he, List.drop_length, show xs.length = ys.length by omega, List.drop_length]; rfl
        have E3 := Lib.hid e3
        clear e3 he
        go_wp2
        go_ret
        exact ⟨ret_int E3.out.symm, rfl⟩
end Go.Proofs.YtadamjleglckpaaGreat.drn

/- slices.SortFunc at a list of lists, by slices.Compare. -/
namespace Go.Proofs
open Go.Shelf Go.RowKit Go.Lib Go.Sort
shelf_lay_g SlLaysF.n6 Slsf 6 at Tryz 82 as Tryz.sortLs
end Go.Proofs

namespace Go.Proofs.YtadamjleglckpaaGreat.drn
open Go.RowKit
open Go.Lib Go.Shelf
open Go.Sort (Holds grow putRow cell?_putRow size_putRow cell?_putRow_other SWO PermIn SortedIn)
set_option linter.unusedSimpArgs false
set_option linter.unusedVariables false
/-- a list that lies in memory beside one block -/
def Ls (w : World) (g : Nat) (p : Value × List Int) : Prop := (∃ q c, p.1 = .slice q p.2.length c ∧ RowV w q (flatI p.2) ∧ ∀ a, q = some a → a.block ≠ g ∧ a.block < w.heap.size) ∧ p.2.length ≤ 1000000
abbrev El (w : World) (g : Nat) : Type := { p : Value × List Int // Ls w g p }
instance {w : World} {g : Nat} : Inhabited (El w g) := ⟨⟨(.slice none 0 0, []), ⟨none, 0, rfl, .inl rfl, fun a h => by cases h⟩, by simp⟩⟩
def encL {w : World} {g : Nat} (x : El w g) : Value := x.1.1
def cfL {w : World} {g : Nat} (x y : El w g) : Int := cmpI x.1.2 y.1.2
theorem one_encL {w : World} {g : Nat} : OneCell (encL (w := w) (g := g)) := by
  intro x
  obtain ⟨⟨v, l⟩, ⟨q, c, e, _⟩, _⟩ := x
  show v.oneCell' = true
  rw [show v = .slice q l.length c from e]
  rfl
theorem swo_L {w : World} {g : Nat} : SWO (ltOf (cfL (w := w) (g := g))) := by
  have h : ∀ x y : El w g, ltOf cfL x y = true ↔ List.Lex (· < ·) x.1.2 y.1.2 := fun x y => by
    unfold ltOf cfL; rw [decide_eq_true_iff]; exact cmpI_lex _ _
  refine ⟨fun x => ?_, fun x y z a b => ?_, fun x y z a b => ?_⟩
  · rw [Bool.eq_false_iff]; intro e; exact lexI_irr _ ((h x x).1 e)
  · exact (h x z).2 (lexI_tr _ _ _ ((h x y).1 a) ((h y z).1 b))
  · rw [Bool.eq_false_iff] at *
    intro e
    have a' : ¬ List.Lex (· < ·) x.1.2 y.1.2 := fun k => a ((h x y).2 k)
    have b' : ¬ List.Lex (· < ·) y.1.2 z.1.2 := fun k => b ((h y z).2 k)
    have e' := (h x z).1 e
    rcases lexI_total x.1.2 y.1.2 with k | k | k
    · exact a' k
    · rw [k] at e'; exact b' e'
    · exact b' (lexI_tr _ _ _ k e')
theorem sw_cell {w : World} {g : Nat} {m : Nat} {os : Array Obj} {dk : Array (El w g)} {b i : Nat} (hb : b < w.heap.size) (hne : b ≠ g) : (sortWorld encL w g 0 m dk os).cell? ⟨b, i, none⟩ = w.cell? ⟨b, i, none⟩ := by
  unfold sortWorld
  have hz : b < (putRow encL (Go.Sort.ahead w m) g 0 dk).heap.size := by rw [size_putRow]; exact hb
  have h2 : (grow (putRow encL (Go.Sort.ahead w m) g 0 dk) os).cell? ⟨b, i, none⟩ = (putRow encL (Go.Sort.ahead w m) g 0 dk).cell? ⟨b, i, none⟩ := by
    simp only [World.cell?, grow, Array.getElem?_append_left hz]
  rw [h2, cell?_putRow_other _ _ _ _ _ _ (.inl hne)]
  rfl
theorem sw_size {w : World} {g : Nat} {m : Nat} {os : Array Obj} {dk : Array (El w g)} : w.heap.size ≤ (sortWorld encL w g 0 m dk os).heap.size := by
  unfold sortWorld; simp
theorem sw_row {w : World} {g : Nat} {m : Nat} {os : Array Obj} {dk : Array (El w g)} {q : Option Addr} {vs : List Value} (hr : RowV w q vs) (hq : ∀ a, q = some a → a.block ≠ g ∧ a.block < w.heap.size) : RowV (sortWorld encL w g 0 m dk os) q vs := by
  rcases hr with h | ⟨b, off, e, hz, hc⟩
  · exact .inl h
  · exact .inr ⟨b, off, e, Nat.lt_of_lt_of_le hz sw_size, fun i v hi => (sw_cell hz (hq _ e).1).trans (hc i v hi)⟩
theorem cmp_lays {w : World} {g : Nat} (size : Nat) : CmpLays1 Tryz.prog 24 #[] (encL (w := w) (g := g)) cfL g 0 size w := by
  intro m os dk _ x y
  obtain ⟨⟨q1, c1, e1, r1, h1⟩, n1⟩ := x.2
  obtain ⟨⟨q2, c2, e2, r2, h2⟩, n2⟩ := y.2
  have a1 : encL x = .slice q1 x.1.2.length c1 := e1
  have a2 : encL y = .slice q2 y.1.2.length c2 := e2
  rw [a1, a2]
  refine (compare_any q1 q2 c1 c2 x.1.2 y.1.2 _ (sw_row r1 h1) (sw_row r2 h2) n1 n2).mono ?_
  rintro e w' ⟨he, hw⟩
  exact ⟨he, 0, #[], by subst hw; simp [World.drewN]⟩
/-- the elements of a row of lists -/
theorem els {w : World} {g : Nat} : ∀ {vs : List Value} {ls : List (List Int)}, InL (fun u l => Ls w g (u, l)) vs ls → ∃ d : List (El w g), d.map (fun x => x.1.1) = vs ∧ d.map (fun x => x.1.2) = ls
  | [], [], _ => ⟨[], rfl, rfl⟩
  | v :: vs, l :: ls, ⟨h, hr⟩ => by
    obtain ⟨d, e1, e2⟩ := els hr
    exact ⟨⟨(v, l), h⟩ :: d, by simp [e1], by simp [e2]⟩
  | [], _ :: _, h => by cases h
  | _ :: _, [], h => by cases h
theorem inL_els {w : World} {g : Nat} {R : Value → List Int → Prop} : ∀ (d : List (El w g)), (∀ x ∈ d, R x.1.1 x.1.2) → InL R (d.map fun x => x.1.1) (d.map fun x => x.1.2)
  | [], _ => trivial
  | x :: d, h => ⟨h x (by simp), inL_els d fun y hy => h y (by simp [hy])⟩
theorem sortL_any (base g cap : Nat) (vs : List Value) (ls : List (List Int)) (w : World) (hown : w.ownsRow base 25 1 (.slice (some ⟨g, 0, none⟩) vs.length cap) vs.length vs) (hin : InL (fun u l => Ls w g (u, l)) vs ls) (hl : vs.length ≤ 1000000) :
    Calls Tryz.prog 82 #[.slice (some ⟨g, 0, none⟩) vs.length cap, .func (.func 24) #[] #[]] w fun e w' => e = .returned (.tuple #[]) ∧ ∃ vs' ls', ls'.Perm ls ∧ ls'.Pairwise (fun a b => ¬ List.Lex (· < ·) b a) ∧ vs'.length = vs.length ∧ RowV w' (some ⟨g, 0, none⟩) vs' ∧
      InL (fun u l => ∃ q c, u = .slice q l.length c ∧ RowV w' q (flatI l)) vs' ls' ∧ But g w w' := by
  obtain ⟨d, e1, e2⟩ := els hin
  have hlt := hown.lt g rfl
  have hdl : d.length = vs.length := by rw [← e1]; simp
  have hH : Holds (encL (w := w) (g := g)) w g 0 d.toArray := by
    intro j hj
    have hj' : j < d.length := by simpa using hj
    have h1 := hown.cells (g := g) rfl j (d[j].1.1) (by rw [← e1]; simp [List.getElem?_eq_getElem hj'])
    have h2 := hown.frozenAt j
    rw [addr_add] at h1
    refine ⟨?_, by rw [Nat.zero_add]; exact h2⟩
    rw [Nat.zero_add, h1, getElem!_pos d.toArray j hj]
    simp [encL]
  have hcon := Any.slices_SortFunc Tryz.sortLs (encL (w := w) (g := g)) one_encL cfL swo_L 24 #[] g 0 cap d.toArray w (fun args W => by kernel_rfl) (cmp_lays _) hH hlt.2 (by simp; omega)
  rw [show d.toArray.size = vs.length by simpa using hdl] at hcon
  refine hcon.mono ?_
  rintro e w' ⟨rfl, d', n, os, hp, hs, rfl⟩
  refine ⟨rfl, d'.toList.map fun x => x.1.1, d'.toList.map fun x => x.1.2, ?_, ?_, ?_, ?_, ?_, ?_⟩
  · have h1 := hp.2.2
    rw [show d.toArray.extract 0 vs.length = d.toArray by rw [Array.extract_eq_self_of_le (by simp; omega)], Array.extract_eq_self_of_le (by rw [hp.1]; simp; omega)] at h1
    rw [← e2]
    exact h1.map _
  · rw [List.pairwise_map, List.pairwise_iff_getElem]
    intro i j hi hj hij
    have hsz : d'.size = vs.length := by rw [hp.1]; simpa using hdl
    have h1 := hs i j (Nat.zero_le _) hij (by rw [← hsz]; simpa using hj)
    rw [getElem!_pos d' i (by simpa using hi), getElem!_pos d' j (by simpa using hj)] at h1
    intro hlex
    have : ltOf cfL d'[j] d'[i] = true := by unfold ltOf cfL; rw [decide_eq_true_iff]; exact (cmpI_lex _ _).2 (by simpa using hlex)
    rw [this] at h1
    cases h1
  · simp [hp.1]; omega
  · refine .inr ⟨g, 0, rfl, Nat.lt_of_lt_of_le hlt.2 sw_size, fun j v hj => ?_⟩
    have hj2 : j < d'.size := by
      have := (List.getElem?_eq_some_iff.1 hj).1
      simpa using this
    have h1 := cell?_putRow encL (Go.Sort.ahead w n) g 0 d.toArray d' hH hp.1 j hj2
    have h2 : (sortWorld encL w g 0 n d' os).cell? ⟨g, 0 + j, none⟩ = (putRow encL (Go.Sort.ahead w n) g 0 d').cell? ⟨g, 0 + j, none⟩ := by
      have hz : g < (putRow encL (Go.Sort.ahead w n) g 0 d').heap.size := by rw [size_putRow]; exact hlt.2
      unfold sortWorld
      simp only [World.cell?, grow, Array.getElem?_append_left hz]
    rw [h2, h1, getElem!_pos d' j hj2]
    rw [List.getElem?_map, List.getElem?_eq_getElem (by simpa using hj2)] at hj
    simpa [encL] using hj
  · refine inL_els d'.toList fun x _ => ?_
    obtain ⟨⟨q1, c1, e1, r1, h1⟩, n1⟩ := x.2
    exact ⟨q1, c1, e1, sw_row r1 h1⟩
  · refine ⟨rfl, rfl, rfl, sw_size, fun k hk hne => ?_⟩
    show ((putRow encL (Go.Sort.ahead w n) g 0 _).heap ++ os)[k]? = _
    rw [Array.getElem?_append_left (by rw [size_putRow]; exact hk)]
    show (w.heap.modify g _)[k]? = _
    rw [Array.getElem?_modify, if_neg (Ne.symm hne)]
end Go.Proofs.YtadamjleglckpaaGreat.drn

/- slices.SortFunc at a list of lists: none at all; and the list that the closure of plans has found. -/
namespace Go.Proofs.YtadamjleglckpaaGreat.drn
open Go.RowKit
open Go.Lib Go.Shelf
set_option linter.unusedSimpArgs false
set_option linter.unusedVariables false
set_option maxHeartbeats 2000000 in
theorem insertion_none (fv : Value) (w : World) :
    Calls Tryz.prog 136 #[.slice none 0 0, .int .i64 0, .int .i64 0, fv] w fun e w' => e = .returned (.tuple #[]) ∧ w' = w := by
  go_enter Tryz.func136, Tryz.ntmps136
  go_wp2
  refine wp_loop_rounds 1 ?_
  rw [rounds_succ]
  go_wp2
  first | (refine bodyPost_end (results_none rfl _ _ _) rfl ?_; exact ⟨rfl, rfl⟩) | (refine bodyPost_ret (results_none rfl _ _ _) rfl ?_; exact ⟨rfl, rfl⟩)
set_option maxHeartbeats 2000000 in
theorem pdq_none (lim : Int) (fv : Value) (w : World) :
    Calls Tryz.prog 117 #[.slice none 0 0, .int .i64 0, .int .i64 0, .int .i64 lim, fv] w fun e w' => e = .returned (.tuple #[]) ∧ w' = w := by
  go_enter Tryz.func117, Tryz.ntmps117
  go_wp2
  refine wp_loop_rounds 1 ?_
  rw [rounds_succ]
  go_wp2_with (go_at_call 136; refine (insertion_none _ _).mono ?_; rintro e w' ⟨rfl, rfl⟩)
  (try simp only [Exit.inBlock, Exit.then])
  first | (refine bodyPost_ret (results_none rfl _ _ _) rfl ?_; exact ⟨rfl, rfl⟩) | (refine bodyPost_end (results_none rfl _ _ _) rfl ?_; exact ⟨rfl, rfl⟩)
theorem len_none (w : World) : Calls Tryz.prog 96 #[.int .u64 0] w fun e w' => e = .returned (.int .i64 (Lib.bitLen 0 : Nat)) ∧ w' = w := by
  have h := Any.bits_Len (SlLaysF0.n15.bits { Tryz.sortLs with }) 0 w (by omega) (by omega)
  exact h
set_option maxHeartbeats 2000000 in
theorem sort_none (fv : Value) (w : World) :
    Calls Tryz.prog 82 #[.slice none 0 0, fv] w fun e w' => e = .returned (.tuple #[]) ∧ w' = w := by
  go_enter Tryz.func82, Tryz.ntmps82
  go_wp2_with (first | (go_at_call 96; refine (len_none _).mono ?_; rintro e w' ⟨rfl, rfl⟩) | (go_at_call 117; refine (pdq_none _ _ _).mono ?_; rintro e w' ⟨rfl, rfl⟩))
  first | (refine bodyPost_ret (results_none rfl _ _ _) rfl ?_; exact ⟨rfl, rfl⟩) | (refine bodyPost_end (results_none rfl _ _ _) rfl ?_; exact ⟨rfl, rfl⟩)
theorem But.frame {g B : Nat} {W W' : World} (h : But g W W') : PFr B (some g) W W' := ⟨h.os, h.tape, h.output, h.size, fun k hk _ hn => h.block k hk (fun e => hn (by rw [e]))⟩
theorem inL_and {R S : Value → List Int → Prop} {Q : List Int → Prop} (hRS : ∀ v l, R v l → Q l → S v l) : ∀ {vs : List Value} {ls : List (List Int)}, InL R vs ls → (∀ l ∈ ls, Q l) → InL S vs ls
  | [], [], _, _ => trivial
  | v :: vs, l :: ls, ⟨h, hr⟩, hq => ⟨hRS v l h (hq l (by simp)), inL_and hRS hr fun x hx => hq x (by simp [hx])⟩
  | [], _ :: _, h, _ => by cases h
  | _ :: _, [], h, _ => by cases h
/-- sorting the lists that the closure has found -/
theorem sortO_any (B : Nat) (v : Value) (vs : List Value) (ls : List (List Int)) (w : World) (hO : OutP w B v vs ls) (hl : ls.length ≤ 16384) (hle : ∀ l ∈ ls, l.length ≤ 1000000) :
    Calls Tryz.prog 82 #[v, .func (.func 24) #[] #[]] w fun e w' => e = .returned (.tuple #[]) ∧ ∃ q c vs' ls', v = .slice q ls'.length c ∧ ls'.Perm ls ∧ ls'.Pairwise (fun a b => ¬ List.Lex (· < ·) b a) ∧ vs'.length = ls'.length ∧ RowV w' q vs' ∧
      (∀ a, q = some a → B + 4 ≤ a.block) ∧ InL (fun u l => ∃ q c, u = .slice q l.length c ∧ RowV w' q (flatI l)) vs' ls' ∧ PFr B v.ownBlock w w' ∧ w'.cell? ⟨B + 1, 0, none⟩ = some v := by
  have hvl : vs.length = ls.length := InL.len hO.each
  have hob := hO.ob
  obtain ⟨k1, k2⟩ := hO.own
  rcases k2 with ⟨rfl, k2⟩ | ⟨g, cap, cur, rfl, k3, k4⟩
  · refine (sort_none _ w).mono ?_
    rintro e w' ⟨rfl, rfl⟩
    have h0 : vs = [] := List.length_eq_zero_iff.1 k2
    have h1 : ls = [] := List.length_eq_zero_iff.1 (by omega)
    subst h0
    subst h1
    exact ⟨rfl, none, 0, [], [], rfl, .refl _, .nil, rfl, .inl rfl, (fun a h => by cases h), trivial, PFr.refl _ _ _, hO.cell⟩
  · have hown := hO.own
    have hlt := hob g rfl
    refine (sortL_any (B + 4) g cap vs ls w hown ?_ (by omega)).mono ?_
    · refine inL_and (fun u l h hq => ?_) hO.each hle
      obtain ⟨q, c, e, ⟨r1, r2⟩, _⟩ := h
      exact ⟨⟨q, c, e, r1, fun a ha => ⟨fun e => (r2 a ha).2.1 (by rw [e]; rfl), (r2 a ha).2.2⟩⟩, hq⟩
    · rintro e w' ⟨rfl, vs', ls', p1, p2, p3, p4, p5, p6⟩
      refine ⟨rfl, some ⟨g, 0, none⟩, cap, vs', ls', by rw [p1.length_eq, hvl], p1, p2, by rw [p3, p1.length_eq, hvl], p4, (fun a h => by injection h with h; subst h; exact hlt.1), p5, p6.frame, ?_⟩
      exact (World.cell?_of_block (p6.block (B + 1) (by omega) (by omega))).trans hO.cell
end Go.Proofs.YtadamjleglckpaaGreat.drn

/- slices.IndexFunc, DeleteFunc, MinFunc at sets, with whatever function that keeps what lies below. -/
namespace Go.Proofs.YtadamjleglckpaaGreat.drn
open Go.RowKit
set_option linter.unusedSimpArgs false
set_option linter.unusedVariables false

/-- a test of sets, in each world in which what lies below a bound is as it was -/
def TestS (B : Nat) (w : World) (pf : Nat) (lb : Array Value) (p : Nat → Bool) (xs : List Nat) : Prop :=
  ∀ (W : World) (s : Nat), s ∈ xs → Below B w W → B ≤ W.heap.size → Calls Tryz.prog pf (#[.int .u64 s] ++ lb) W fun e W' => e = .returned (.bool (p s)) ∧ Below W.heap.size W W'
def Enters (pf : Nat) : Prop := ∀ args w, (callFunc pf args).run Tryz.prog w = .ok (.enter pf args) w

set_option maxRecDepth 100000 in
theorem indexS_any (B pf : Nat) (lb : Array Value) (p : Nat → Bool) (eg : Enters pf) (q : Option Addr) (cap : Nat) (xs : List Nat) (w : World) (hB : B ≤ w.heap.size) (ht : TestS B w pf lb p xs) (hr : RowV w q (flatU xs)) (hl : xs.length ≤ 1000) :
    Calls Tryz.prog 104 #[.slice q xs.length cap, .func (.func pf) #[] lb] w fun e w' => e = .returned (.int .i64 (firstIdx p xs)) ∧ Below w.heap.size w w' := by
  have EG := Lib.hid eg
  have HT := Lib.hid ht
  clear eg ht
  go_enter Tryz.func104, Tryz.ntmps104
  go_wp2
  go_loopw [8] (fun i wr => ∃ k : Nat, k ≤ xs.length ∧ i = .int .i64 k ∧ AllNo p xs k ∧ Below w.heap.size w wr) (fun i _ => xs.length - (intOf i).toNat)
  case atStart => exact ⟨0, Nat.zero_le _, rfl, AllNo.zero _ _, Below.refl _ _⟩
  case round =>
    obtain ⟨k, hk, rfl, hall, hbel⟩ := hrel
    by_cases hlt : k < xs.length
    · obtain ⟨b, off, rfl, hb, h1⟩ := rowU_at hr hlt (Nat.le_refl _) hbel
      have hst := hall.step hlt 0
      have hm := getD_mem xs k 0 hlt
      generalize xs.getD k 0 = s at h1 hst hm
      have hcc := HT.out wr s hm (hbel.mono hB) (Nat.le_trans hB hbel.size)
      have HST := Lib.hid hst
      have HCC := Lib.hid hcc
      clear hst hcc
      go_wp2
      rw [EG.out, Oper.upon_enter]
      refine HCC.out.mono ?_
      rintro e w2 ⟨rfl, hb2⟩
      dsimp only
      obtain ⟨y, hy⟩ : ∃ y, p s = y := ⟨_, rfl⟩
      rw [hy]
      have HY := Lib.hid hy
      clear hy
      cases y with
      | true =>
        go_wp2
        go_ret
        exact ⟨ret_int (HST.out.2 HY.out).symm, hbel.on hb2⟩
      | false =>
        go_wp2
        go_roundw
        case rel => exact ⟨k + 1, hlt, by go_num, HST.out.1 HY.out, hbel.on hb2⟩
        case measure => simp [intOf]; omega
    · obtain rfl : k = xs.length := by omega
      go_wp2
      go_ret
      exact ⟨ret_int hall.all.symm, hbel⟩

/-- a comparison of sets by a number -/
def CmpS (B : Nat) (w : World) (pf : Nat) (lb : Array Value) (f : Nat → Nat) (xs : List Nat) : Prop :=
  ∀ (W : World) (s t : Nat), s ∈ xs → t ∈ xs → Below B w W → B ≤ W.heap.size → Calls Tryz.prog pf (#[.int .u64 s, .int .u64 t] ++ lb) W fun e W' => (∃ c : Int, e = .returned (.int .i64 c) ∧ (c < 0 ↔ f s < f t)) ∧ Below W.heap.size W W'

/-- the first with the least number, from one that is there -/
def minFrom (f : Nat → Nat) (m : Nat) : List Nat → Nat
  | [] => m
  | x :: r => minFrom f (if f x < f m then x else m) r
theorem minFrom_first (f : Nat → Nat) (x : Nat) (r : List Nat) : firstMin f (x :: r) = some (minFrom f x r) := by
  have h := keepMin_all f (x :: r)
  rw [List.foldl_cons] at h
  have e : ∀ (l : List Nat) (m : Nat), l.foldl (keepMin f) (some m) = some (minFrom f m l) := by
    intro l
    induction l with
    | nil => intro m; rfl
    | cons y l ih =>
      intro m
      rw [List.foldl_cons]
      show List.foldl (keepMin f) (keepMin f (some m) y) l = some (minFrom f (if f y < f m then y else m) l)
      rw [← ih]
      congr 1
      unfold keepMin
      by_cases hlt : f y < f m
      · simp [hlt]
      · simp [hlt]
  rw [← h]
  exact e r x
theorem minFrom_mem (f : Nat → Nat) : ∀ (r : List Nat) (m : Nat), minFrom f m r = m ∨ minFrom f m r ∈ r
  | [], m => .inl rfl
  | x :: r, m => by
    unfold minFrom
    by_cases h : f x < f m
    · rw [if_pos h]
      rcases minFrom_mem f r x with h | h
      · exact .inr (by rw [h]; simp)
      · exact .inr (by simp [h])
    · rw [if_neg h]
      rcases minFrom_mem f r m with h | h
      · exact .inl h
      · exact .inr (by simp [h])

set_option maxRecDepth 100000 in
theorem minS_any (B pf : Nat) (lb : Array Value) (f : Nat → Nat) (eg : Enters pf) (q : Option Addr) (cap : Nat) (x : Nat) (xs : List Nat) (w : World) (hB : B ≤ w.heap.size) (ht : CmpS B w pf lb f (x :: xs)) (hr : RowV w q (flatU (x :: xs))) (hl : (x :: xs).length ≤ 1000) :
    Calls Tryz.prog 60 #[.slice q (x :: xs).length cap, .func (.func pf) #[] lb] w fun e w' => e = .returned (.int .u64 (minFrom f x xs : Nat)) ∧ Below w.heap.size w w' := by
  obtain ⟨ys, hys⟩ : ∃ ys, x :: xs = ys := ⟨_, rfl⟩
  have hlen : ys.length = xs.length + 1 := by rw [← hys]; rfl
  have h0 : ys.getD 0 0 = x := by rw [← hys]; rfl
  have hdr : ys.drop 1 = xs := by rw [← hys]; rfl
  have hmem : x ∈ ys := by rw [← hys]; simp
  rw [hys] at ht hr hl ⊢
  have EG := Lib.hid eg
  have HT := Lib.hid ht
  have HLEN := Lib.hid hlen
  have HDR := Lib.hid hdr
  have HMEM := Lib.hid hmem
  have hpos : 0 < ys.length := by omega
  have hpos1 : ¬ (ys.length : Int) < 1 := by omega
  obtain ⟨b, off, rfl, hb, h1⟩ := rowU_at hr hpos (Nat.le_refl _) (Below.refl _ _)
  rw [h0] at h1
  clear eg ht hys hlen h0 hdr hmem
  have h1' : w.cell? ⟨b, off, none⟩ = some (.int .u64 x) := by simpa using h1
  go_enter Tryz.func60, Tryz.ntmps60
  go_wp2
  clear hpos1
  go_loopw [5, 6] (fun m i wr => ∃ (k m' : Nat), 1 ≤ k ∧ k ≤ ys.length ∧ i = .int .i64 k ∧ m = .int .u64 m' ∧ m' ∈ ys ∧ minFrom f m' (ys.drop k) = minFrom f x xs ∧ Below w.heap.size w wr) (fun _ i _ => ys.length - (intOf i).toNat)
  case atStart => exact ⟨1, x, Nat.le_refl _, hpos, rfl, rfl, HMEM.out, by rw [HDR.out], Below.refl _ _⟩
  case round =>
    obtain ⟨k, m, hk1, hk, rfl, rfl, hm, hmin, hbel⟩ := hrel
    by_cases hlt : k < ys.length
    · obtain ⟨b', off', e', hb', h2⟩ := rowU_at hr hlt (Nat.le_refl _) hbel
      injection e' with e'
      injection e' with e1 e2
      subst e1 e2
      have hst : ys.drop k = ys.getD k 0 :: ys.drop (k + 1) := by rw [List.drop_eq_getElem_cons hlt, getD_eq ys k 0 hlt]
      rw [hst] at hmin
      have hsm := getD_mem ys k 0 hlt
      generalize ys.getD k 0 = s at h2 hmin hsm
      have hcc := HT.out wr s m hsm hm (hbel.mono hB) (Nat.le_trans hB hbel.size)
      have HMIN := Lib.hid hmin
      have HCC := Lib.hid hcc
      have HM := Lib.hid hm
      have HSM := Lib.hid hsm
      clear hmin hcc hst h1 h1' hm hsm
      go_wp2
      rw [EG.out, Oper.upon_enter]
      refine HCC.out.mono ?_
      rintro e w2 ⟨⟨c, rfl, hc⟩, hb2⟩
      have h3 := (hb2.cell (p := ⟨b, off + k, none⟩) (Nat.lt_of_lt_of_le hb hbel.size)).trans h2
      have hbz : b < w2.heap.size := Nat.lt_of_lt_of_le hb (hbel.on hb2).size
      dsimp only
      by_cases hlf : f s < f m
      · have hneg : c < 0 := hc.2 hlf
        have HL := Lib.hid hlf
        clear hlf hc
        go_wp2
        go_roundw
        case rel => exact ⟨k + 1, s, by omega, hlt, by go_num, rfl, HSM.out, by have h := HMIN.out; rw [minFrom, if_pos HL.out] at h; exact h, hbel.on hb2⟩
        case measure => simp [intOf]; omega
      · have hneg : ¬ c < 0 := fun h => hlf (hc.1 h)
        have HL := Lib.hid hlf
        clear hlf hc
        go_wp2
        go_roundw
        case rel => exact ⟨k + 1, m, by omega, hlt, by go_num, rfl, HM.out, by have h := HMIN.out; rw [minFrom, if_neg HL.out] at h; exact h, hbel.on hb2⟩
        case measure => simp [intOf]; omega
    · obtain rfl : k = ys.length := by omega
      have hfin : m = minFrom f x xs := by rw [← hmin, List.drop_length]; rfl
      go_wp2
      go_ret
      exact ⟨by rw [← hfin]; rfl, hbel⟩

theorem own_prefix {w : World} {base : Nat} {e : TypeId} {g cap n i : Nat} {xs : List Value} (h : w.ownsRow base e 1 (.slice (some ⟨g, 0, none⟩) n cap) n xs) (hi : i ≤ n) : w.ownsRow base e 1 (.slice (some ⟨g, 0, none⟩) i cap) i (xs.take i) := by
  obtain ⟨h1, h2 | ⟨g', cap', cur, hv, hb, hh, hn, hm, hs, ht⟩⟩ := h
  · cases h2.1
  · cases hv
    refine ⟨by rw [List.length_take]; omega, .inr ⟨g, cap, cur, rfl, hb, hh, by omega, hm, hs, ?_⟩⟩
    rw [← ht, List.take_take, Nat.min_eq_left (by omega), Nat.mul_one]
theorem own_cells {base : Nat} {e : TypeId} {g cap n : Nat} : ∀ (vs : List Value) (o : Nat) (w : World) (xs : List Value), w.ownsRow base e 1 (.slice (some ⟨g, 0, none⟩) n cap) n xs →
    ∃ ys, (w.setCells g o vs).ownsRow base e 1 (.slice (some ⟨g, 0, none⟩) n cap) n ys ∧ ys.take o = xs.take o ∧ (base ≤ w.heap.size → Below base w (w.setCells g o vs))
  | [], o, w, xs, h => ⟨xs, h, rfl, fun _ => Below.refl _ _⟩
  | v :: r, o, w, xs, h => by
    obtain ⟨h1, h2⟩ := h.stored o v
    obtain ⟨ys, h3, h4, h5⟩ := own_cells r (o + 1) _ _ h1
    refine ⟨ys, h3, ?_, fun hb => ?_⟩
    · have h6 := congrArg (List.take o) h4
      rw [List.take_take, List.take_take, Nat.min_eq_left (by omega)] at h6
      rw [h6, List.take_set_of_le (by omega)]
    · have hbg : Below base w (w.setCell ⟨g, o, none⟩ v) := (Below.refl _ _).grown h2 hb fun k hk => by injection hk with hk; subst hk; exact (h.lt g rfl).1
      exact hbg.trans (h5 (by have := hbg.size; omega))
theorem own_base {w : World} {base : Nat} {e : TypeId} {size : Nat} {v : Value} {n : Nat} {xs : List Value} (h : w.ownsRow base e size v n xs) {b : Nat} (hb : b ≤ base) : w.ownsRow b e size v n xs := by
  obtain ⟨h1, h2 | ⟨g, cap, cur, hv, hg, r⟩⟩ := h
  · exact ⟨h1, .inl h2⟩
  · exact ⟨h1, .inr ⟨g, cap, cur, hv, Nat.le_trans hb hg, r⟩⟩

/-- how the row stands while DeleteFunc goes: i kept of the first j -/
def Kept (p : Nat → Bool) (xs C : List Nat) (i j : Nat) : Prop :=
  C.length = xs.length ∧ i ≤ j ∧ C.take i = (xs.take j).filter (fun x => !p x) ∧ ∀ t, j ≤ t → C.getD t 0 = xs.getD t 0
theorem Kept.keep {p : Nat → Bool} {xs C : List Nat} {i j : Nat} (h : Kept p xs C i j) (hi : i < j) (hj : j < xs.length) (hp : p (xs.getD j 0) = false) : Kept p xs (C.set i (xs.getD j 0)) (i + 1) (j + 1) := by
  obtain ⟨h1, h2, h3, h4⟩ := h
  refine ⟨by simpa using h1, by omega, ?_, fun t ht => ?_⟩
  · have hc : i < (C.set i (xs.getD j 0)).length := by simp; omega
    rw [getD_take _ i 0 hc, filter_take_succ _ xs j 0 hj, if_pos (by rw [hp]; rfl), List.take_set_of_le (Nat.le_refl _), h3]
    congr 1
    rw [getD_eq _ i 0 hc]
    simp
  · have := h4 t (by omega)
    rw [← this, List.getD_eq_getElem?_getD, List.getElem?_set_ne (by omega), ← List.getD_eq_getElem?_getD]
theorem Kept.skip {p : Nat → Bool} {xs C : List Nat} {i j : Nat} (h : Kept p xs C i j) (hj : j < xs.length) (hp : p (xs.getD j 0) = true) : Kept p xs C i (j + 1) := by
  obtain ⟨h1, h2, h3, h4⟩ := h
  refine ⟨h1, by omega, ?_, fun t ht => h4 t (by omega)⟩
  rw [filter_take_succ _ xs j 0 hj, if_neg (by rw [hp]; decide), List.append_nil, h3]
theorem firstIdx_case {α : Type} (f : α → Bool) : ∀ (l : List α) (d : α), (firstIdx f l = -1 ∧ ∀ x ∈ l, f x = false) ∨ ∃ k, k < l.length ∧ firstIdx f l = (k : Nat) ∧ f (l.getD k d) = true ∧ ∀ x ∈ l.take k, f x = false
  | [], _ => .inl ⟨rfl, by simp⟩
  | a :: l, d => by
    by_cases h : f a = true
    · exact .inr ⟨0, by simp, by simp [firstIdx, h], by simpa using h, by simp⟩
    · have hf : f a = false := by simpa using h
      rcases firstIdx_case f l d with ⟨e, ha⟩ | ⟨k, hk, e, ht, ha⟩
      · refine .inl ⟨by rw [firstIdx, if_neg h, if_pos (by omega)], fun x hx => ?_⟩
        rcases List.mem_cons.1 hx with rfl | hx
        · exact hf
        · exact ha x hx
      · refine .inr ⟨k + 1, by simpa using hk, by rw [firstIdx, if_neg h, if_neg (by omega), e]; omega, by simpa using ht, fun x hx => ?_⟩
        rw [List.take_succ_cons] at hx
        rcases List.mem_cons.1 hx with rfl | hx
        · exact hf
        · exact ha x hx
theorem flatU_set (C : List Nat) (i s : Nat) : (flatU C).set i (.int .u64 s) = flatU (C.set i s) := by unfold flatU; rw [List.map_set]
theorem flatU_take (C : List Nat) (i : Nat) : (flatU C).take i = flatU (C.take i) := by unfold flatU; rw [List.map_take]
theorem filter_none {p : Nat → Bool} {xs : List Nat} (h : ∀ x ∈ xs, p x = false) : xs.filter (fun x => !p x) = xs := by
  rw [List.filter_eq_self]
  intro x hx
  rw [h x hx]; rfl

set_option maxRecDepth 100000 in
theorem deleteS_any (B pf : Nat) (lb : Array Value) (p : Nat → Bool) (eg : Enters pf) (v : Value) (xs : List Nat) (w : World) (hB : B ≤ w.heap.size) (ht : TestS B w pf lb p xs) (hr : w.ownsRow B 84 1 v xs.length (flatU xs)) (hl : xs.length ≤ 1000) :
    Calls Tryz.prog 56 #[v, .func (.func pf) #[] lb] w fun e w' => ∃ v', e = .returned v' ∧ w'.ownsRow B 84 1 v' (xs.filter fun x => !p x).length (flatU (xs.filter fun x => !p x)) ∧ Below B w w' := by
  obtain ⟨q, cap, rfl, hrow, hqc, hqb⟩ := rowV_of_owns hr (by intro h0; rw [List.length_eq_zero_iff] at h0; rw [h0]; rfl)
  have hix := fun W hb => indexS_any B pf lb p eg q cap xs W (Nat.le_trans hB (Below.size hb)) (fun W2 s hs hb2 h2 => ht W2 s hs ((hb.mono hB).trans hb2) h2) (hrow.below (Nat.le_refl _) hb) hl
  have HIX := Lib.hid hix
  have EG := Lib.hid eg
  have HT := Lib.hid ht
  have HR := Lib.hid hr
  clear hix eg ht hr
  rcases firstIdx_case p xs 0 with ⟨e1, hall⟩ | ⟨k0, hk0, e1, hhit, hall⟩
  · rw [e1] at HIX
    have HF := Lib.hid (filter_none hall)
    clear hall e1
    go_enter Tryz.func56, Tryz.ntmps56
    go_wp2_with (go_at_call 104; refine (HIX.out _ (Below.refl _ _)).mono ?_; rintro e w1 ⟨rfl, hb1⟩)
    go_ret
    exact ⟨_, rfl, by rw [HF.out]; exact owns_below HR.out (Nat.le_refl _) hb1, hb1.mono hB⟩
  · rw [e1] at HIX
    obtain ⟨b, off, rfl, hbz, _⟩ := rowU_at hrow hk0 (Nat.le_refl _) (Below.refl _ _)
    have hoff : off = 0 := by
      obtain ⟨_, h2 | ⟨g, cap', cur, hv, _⟩⟩ := HR.out
      · cases h2.1
      · cases hv; rfl
    subst hoff
    have hcapn : xs.length ≤ cap := by
      obtain ⟨_, h2 | ⟨g, cap', cur, hv, hb, hh, hn, _⟩⟩ := HR.out
      · cases h2.1
      · cases hv; exact hn
    have hkept : Kept p xs xs k0 (k0 + 1) := by
      refine ⟨rfl, by omega, ?_, fun _ _ => rfl⟩
      rw [filter_take_succ _ xs k0 0 hk0, if_neg (by rw [hhit]; decide), List.append_nil, filter_none hall]
    have HK := Lib.hid hkept
    have hk1 : k0 < k0 + 1 := by omega
    have hneg : ((k0 : Int) == -1) = false := beq_eq_false_iff_ne.2 (by omega)
    clear hkept hall e1 hrow hqc hqb hhit
    go_enter Tryz.func56, Tryz.ntmps56
    go_wp2_with (go_at_call 104; refine (HIX.out _ (Below.refl _ _)).mono ?_; rintro e w1 ⟨rfl, hb1⟩)
    have hown1 := owns_below HR.out (Nat.le_refl _) hb1
    have hbw1 : Below B w w1 := hb1.mono hB
    have hz1 : B ≤ w1.heap.size := Nat.le_trans hB hb1.size
    clear hneg HR HIX hb1
    go_loopw [5, 6] (fun si sj wr => ∃ (i j : Nat) (C : List Nat), si = .int .i64 i ∧ sj = .int .i64 j ∧ i < j ∧ j ≤ xs.length ∧ Kept p xs C i j ∧ wr.ownsRow B 84 1 (.slice (some ⟨b, 0, none⟩) xs.length cap) xs.length (flatU C) ∧ Below B w wr ∧ B ≤ wr.heap.size ∧ b < wr.heap.size) (fun _ sj _ => xs.length - (intOf sj).toNat)
    case atStart => exact ⟨k0, k0 + 1, xs, rfl, by go_num, by omega, by omega, HK.out, hown1, hbw1, hz1, (hown1.lt b rfl).2⟩
    case round =>
      obtain ⟨i, j, C, rfl, rfl, hij, hjn, hkept, hown, hbel, hBz, hbz2⟩ := hrel
      by_cases hlt : j < xs.length
      · have hcl := hkept.1
        have hce := hown.cellAt j (by omega)
        rw [flatU_get C j (by omega), hkept.2.2.2 j (Nat.le_refl _)] at hce
        have hm := getD_mem xs j 0 hlt
        have hkeep := fun hp => hkept.keep hij hlt hp
        have hskip := fun hp => hkept.skip hlt hp
        generalize xs.getD j 0 = s at hce hm hkeep hskip
        have hcc := HT.out wr s hm hbel hBz
        have HKE := Lib.hid hkeep
        have HSK := Lib.hid hskip
        have HCC := Lib.hid hcc
        have HO := Lib.hid hown
        have HKT := Lib.hid hkept
        have HCL := Lib.hid hcl
        clear hkeep hskip hcc hown hkept hcl
        go_wp2
        rw [EG.out, Oper.upon_enter]
        refine HCC.out.mono ?_
        rintro e w2 ⟨rfl, hb2⟩
        dsimp only
        obtain ⟨y, hy⟩ : ∃ y, p s = y := ⟨_, rfl⟩
        rw [hy]
        have HY := Lib.hid hy
        have hown2 := owns_below HO.out (Nat.le_refl _) hb2
        have hbel2 : Below B w w2 := hbel.trans (hb2.mono hBz)
        have hBz2 : B ≤ w2.heap.size := Nat.le_trans hBz hb2.size
        have hbz3 : b < w2.heap.size := Nat.lt_of_lt_of_le hbz2 hb2.size
        clear hy hce
        cases y with
        | true =>
          have HO2 := Lib.hid hown2
          clear hown2
          go_wp2
          go_roundw
          case rel => exact ⟨i, j + 1, C, rfl, by go_num, by omega, hlt, HSK.out HY.out, HO2.out, hbel2, hBz2, hbz3⟩
          case measure => simp [intOf]; omega
        | false =>
          have hi := hown2.cellAt i (by have := HCL.out; omega)
          rw [flatU_get C i (by have := HCL.out; omega)] at hi
          have hfz := hown2.frozenAt i
          have hst := hown2.stored i (.int .u64 s)
          rw [flatU_set] at hst
          have hBw := fun h => (Below.refl B w2).grown hst.2 hBz2 h
          have hBk := hBw (fun k hk => by injection hk with hk; subst hk; exact (hown2.lt b rfl).1)
          have HST := Lib.hid hst
          have HBK := Lib.hid hBk
          clear hst hown2 hBw hBk
          go_wp2
          go_roundw
          case rel => exact ⟨i + 1, j + 1, C.set i s, by go_num, by go_num, by omega, hlt, HKE.out HY.out, HST.out.1, hbel2.trans HBK.out, by simpa using hBz2, by simpa using hbz3⟩
          case measure => simp [intOf]; omega
      · obtain rfl : j = xs.length := by omega
        have hzv : ∀ w, (zeroValue 84).run Tryz.prog w = .ok (.int .u64 0) w := fun w => by kernel_rfl
        have hcl2 : ∀ ty, (Builtin.clear_ #[91] ty #[.slice (some ⟨b, i, none⟩) (xs.length - i) (cap - i)]).run Tryz.prog wr = .ok (.tuple #[]) (wr.setCells b i (List.replicate (xs.length - i) (.int .u64 0))) :=
          fun ty => Lib.run_clear_slice wr _ _ ty _ Tryz.underlying91 hzv rfl rfl b i _ _ (by omega) (fun t ht => by rw [hown.cellAt (i + t) (by omega), flatU_get C _ (by have := hkept.1; omega)]; rfl) (fun t ht => hown.frozenAt _)
        obtain ⟨ys, ho, htk, hbk⟩ := own_cells (List.replicate (xs.length - i) (.int .u64 0)) i wr _ hown
        have hpre := own_prefix ho (show i ≤ xs.length by omega)
        rw [htk, flatU_take, hkept.2.2.1, List.take_length] at hpre
        have hil : i = (xs.filter fun x => !p x).length := by
          have h := congrArg List.length hkept.2.2.1
          rw [List.take_length, List.length_take] at h
          have := hkept.1
          omega
        have hfin := hbel.trans (hbk hBz)
        have HP := Lib.hid hpre
        have HI := Lib.hid hil
        have HF := Lib.hid hfin
        have hicap : ¬ (i : Int) = (cap : Int) := by omega
        have hicn : i < cap := by omega
        clear hpre hil hfin ho htk hbk hkept hown
        go_wp2
        go_ret
        exact ⟨_, rfl, by rw [← HI.out]; exact HP.out, HF.out⟩
end Go.Proofs.YtadamjleglckpaaGreat.drn

/- Package drain, the walks: Trap, Narrow. -/
namespace Go.Proofs.YtadamjleglckpaaGreat.drn
open Go.RowKit
set_option linter.unusedSimpArgs false
set_option linter.unusedVariables false

theorem groupsOf_any (n : Nat) (q : Option Addr) (m c : Nat) (w : World) (hn : n ≤ 6) : Calls Tryz.prog 57 #[hillV n q m c] w (RetV w 84 1 (groupsS n 0).length (flatU (groupsS n 0))) := by
  unfold hillV
  have hb0 : Below w.heap.size w (w.alloc (.cells #[.int .i64 n, .slice q m c] 24)) := (Below.refl _ _).alloc (Nat.le_refl _) _
  have HB := Lib.hid hb0
  have hg := groupsFrom_any n hn n 0 (w.alloc (.cells #[.int .i64 n, .slice q m c] 24)) (by omega)
  have HG := Lib.hid hg
  clear hg hb0
  go_enter Tryz.func57, Tryz.ntmps57
  go_wp2_with (go_at_call 105; refine HG.out.mono ?_; rintro e w1 ⟨v1, rfl, hown, hb⟩)
  go_ret
  exact ⟨v1, rfl, own_base hown HB.out.size, HB.out.on hb⟩

/-- a slice of channels in a block, which closures have captured -/
def ChsAt (w : World) (B n : Nat) (cs : List Ch) : Prop := ∃ q cap, B < w.heap.size ∧ w.cell? ⟨B, 0, none⟩ = some (.slice q cs.length cap) ∧ RowV w q (flatC n cs)
theorem ChsAt.below {w w' : World} {B n : Nat} {cs : List Ch} (h : ChsAt w B n cs) {N : Nat} (hN : w.heap.size ≤ N) (hb : Below N w w') : ChsAt w' B n cs := by
  obtain ⟨q, cap, h1, h2, h3⟩ := h
  exact ⟨q, cap, Nat.lt_of_lt_of_le h1 hb.size, (hb.cell (p := ⟨B, 0, none⟩) (Nat.lt_of_lt_of_le h1 hN)).trans h2, h3.below hN hb⟩

theorem Trap1_any (n s B : Nat) (cs : List Ch) (w : World) (hc : Chs n cs) (hs : s < 2 ^ n) (hB : ChsAt w B n cs) :
    Calls Tryz.prog 58 #[.int .u64 s, .pointer (some ⟨B, 0, none⟩)] w fun e w' => e = .returned (.bool (decide (0 < (leavingS cs s).length))) ∧ Below w.heap.size w w' := by
  obtain ⟨q, cap, h1, h2, h3⟩ := hB
  go_enter Tryz.func58, Tryz.ntmps58
  go_wp2_with (go_at_call 59; refine (leaving_any n s q cap cs w hc hs h3).mono ?_; rintro e w5 ⟨v5, rfl, hown5, hb5⟩; obtain ⟨q5, c5, rfl, hrow5, hq5, hqb5⟩ := rowV_of_owns hown5 (by intro h; rw [List.length_eq_zero_iff] at h; rw [h]; rfl))
  go_ret
  exact ⟨ret_bool (by simp), hb5⟩
theorem cmpI_any (a b : Int) (w : World) : Calls Tryz.prog 62 #[.int .i64 a, .int .i64 b] w fun e w' => (∃ c : Int, e = .returned (.int .i64 c) ∧ (c < 0 ↔ a < b)) ∧ w = w' := by
  by_cases h1 : a < b
  · go_enter Tryz.func62, Tryz.ntmps62
    go_wp2
    go_ret
    exact ⟨⟨-1, rfl, by omega⟩, rfl⟩
  · by_cases h2 : b < a
    · go_enter Tryz.func62, Tryz.ntmps62
      go_wp2
      go_ret
      exact ⟨⟨1, rfl, by omega⟩, rfl⟩
    · go_enter Tryz.func62, Tryz.ntmps62
      go_wp2
      go_ret
      exact ⟨⟨0, rfl, by omega⟩, rfl⟩
theorem Trap2_any (s t : Nat) (w : World) (hs : s < 64) (ht : t < 64) :
    Calls Tryz.prog 61 #[.int .u64 s, .int .u64 t] w fun e w' => (∃ c : Int, e = .returned (.int .i64 c) ∧ (c < 0 ↔ sizeS s < sizeS t)) ∧ w = w' := by
  go_enter Tryz.func61, Tryz.ntmps61
  go_wp2_with (first
    | (go_at_call 63; refine (size_any _ _ ?_).mono ?_; (focus assumption); rintro e w1 ⟨rfl, rfl⟩)
    | (go_at_call 62; refine (cmpI_any _ _ _).mono ?_; rintro e w1 ⟨⟨c, rfl, hc⟩, rfl⟩))
  go_ret
  exact ⟨⟨c, rfl, by rw [hc]; omega⟩, rfl⟩
theorem ent_Trap1 : Enters 58 := fun args w => by kernel_rfl
theorem ent_Trap2 : Enters 61 := fun args w => by kernel_rfl

theorem trap_filter (cs : List Ch) (l : List Nat) : (l.filter fun s => !decide (0 < (leavingS cs s).length)) = l.filter fun s => (leavingS cs s).length == 0 := by
  congr 1
  funext s
  by_cases h : (leavingS cs s).length = 0
  · rw [h]; rfl
  · have : 0 < (leavingS cs s).length := by omega
    simp [this, h]

set_option maxRecDepth 100000 in
set_option maxHeartbeats 2000000 in
theorem Trap_any (n : Int) (q : Option Addr) (cap : Nat) (cs : List Ch) (w : World) (hr : RowV w q (flatT cs)) (hcap : cs.length ≤ cap) :
    Calls Tryz.prog 11 #[hillV n q cs.length cap] w (RetI w (trapOf n.toNat cs).1 (trapOf n.toNat cs).2) := by
  have hb0 : Below w.heap.size w (w.alloc (.cells #[.int .i64 n, .slice q cs.length cap] 24)) := (Below.refl _ _).alloc (Nat.le_refl _) _
  have c1 := Check_any n q cap cs _ (hr.below (Nat.le_refl _) hb0) hcap
  unfold hillV at c1 ⊢
  have C1 := Lib.hid c1
  have HB := Lib.hid hb0
  clear c1
  by_cases h0 : errD n cs = 0
  · obtain ⟨m, rfl, hchs⟩ := chs_of h0
    have hans : trapOf ((m : Int).toNat) cs = match firstMin sizeS ((groupsS m 0).filter fun s => (leavingS cs s).length == 0) with
        | none => ([], 13)
        | some s => (listS s, 0) := by
      unfold trapOf
      rw [Int.toNat_natCast, if_neg (by rw [h0]; simp)]
      rfl
    obtain ⟨ans, hA⟩ : ∃ ans, trapOf ((m : Int).toNat) cs = ans := ⟨_, rfl⟩
    rw [hA] at hans ⊢
    have HR := Lib.hid hr
    have HCH := Lib.hid hchs
    have hn6 := hchs.n6
    have hgl : (groupsS m 0).length ≤ 1000 := by
      rw [groupsS_len]
      have : 2 ^ m ≤ 64 := Nat.pow_le_pow_right (by decide) hn6
      omega
    have hmem : ∀ s ∈ groupsS m 0, s < 2 ^ m := fun s hs => (mem_groups.1 hs).2
    have HMEM := Lib.hid hmem
    rw [h0] at C1
    have HANS := Lib.hid hans
    clear hans h0 hr hb0 hchs hmem hA
    go_enter Tryz.func11, Tryz.ntmps11
    go_wp2_with (first
      | (go_at_call 18; refine C1.out.mono ?_; rintro e w1 ⟨rfl, hb1⟩; obtain ⟨hc1, hf1⟩ := bcell hb1; have hac1 : Below w.heap.size w w1 := HB.out.on hb1; have hz0 : w.heap.size < w1.heap.size := (by have := hb1.size; simp at this; omega))
      | (go_at_call 53; refine (channelsOf_any m q cap cs _ HCH.out (HR.out.below (Nat.le_refl _) hac1)).mono ?_; rintro e wB ⟨vB, rfl, hownB, hbB⟩; obtain ⟨hcB, hfB⟩ := bcell hbB; have hacB : Below w.heap.size w wB := hac1.on hbB; have hzB : w.heap.size < wB.heap.size := Nat.lt_of_lt_of_le hz0 hbB.size; obtain ⟨qB, cB, rfl, hrowB, _, _⟩ := rowV_of_owns hownB (by intro h; rw [List.length_eq_zero_iff] at h; rw [h]; rfl); clear hownB)
      | (go_at_call 57; refine (groupsOf_any m q cs.length cap _ hn6).mono ?_; rintro e wG ⟨vG, rfl, hownG, hbG⟩))
    have hchsC : ChsAt (wB.alloc (.cells #[.slice qB cs.length cB] 87)) wB.heap.size m cs := ⟨qB, cB, by simp, by simp, hrowB.below (Nat.le_refl _) ((Below.refl _ _).alloc (Nat.le_refl _) _)⟩
    have hbC : Below wB.heap.size wB (wB.alloc (.cells #[.slice qB cs.length cB] 87)) := (Below.refl _ _).alloc (Nat.le_refl _) _
    have hts : TestS (wB.alloc (.cells #[.slice qB cs.length cB] 87)).heap.size wG 58 #[.pointer (some ⟨wB.heap.size, 0, none⟩)] (fun s => decide (0 < (leavingS cs s).length)) (groupsS m 0) :=
      fun W s hs hb hB => Trap1_any m s _ cs W HCH.out (HMEM.out s hs) (hchsC.below (Nat.le_refl _) (hbG.trans hb))
    have hdel := deleteS_any _ 58 _ _ ent_Trap1 vG (groupsS m 0) wG hbG.size hts hownG hgl
    rw [trap_filter] at hdel
    have hL64 : ∀ s ∈ (groupsS m 0).filter (fun s => (leavingS cs s).length == 0), s < 64 := fun s hs => pow_64 hn6 (HMEM.out s (List.mem_filter.1 hs).1)
    have hLl : ((groupsS m 0).filter (fun s => (leavingS cs s).length == 0)).length ≤ 1000 := Nat.le_trans (List.length_filter_le _ _) hgl
    generalize (groupsS m 0).filter (fun s => (leavingS cs s).length == 0) = L at hdel hL64 hLl HANS
    have hacG : Below w.heap.size w wG := (hacB.on hbC).on hbG
    have HDEL := Lib.hid hdel
    have HAG := Lib.hid hacG
    have HSG := Lib.hid hbG.size
    have HSC := Lib.hid (hacB.on hbC).size
    clear hdel hts hchsC hownG hbG hbC hrowB hbB hcB hfB hacB hb1 hc1 hf1 hac1 hacG
    go_at_call 56
    refine HDEL.out.mono ?_
    rintro e wD ⟨vD, rfl, hownD, hbD⟩
    dsimp only
    have hacD : Below w.heap.size w wD := HAG.out.trans (hbD.mono HSC.out)
    obtain ⟨qD, cD, rfl, hrowD, _, _⟩ := rowV_of_owns hownD (by intro h; rw [List.length_eq_zero_iff] at h; rw [h]; rfl)
    clear hownD HDEL
    cases L with
    | nil =>
      have ha : ans = ([], 13) := HANS.out
      subst ha
      go_wp2
      go_ret2
      exact ⟨none, 0, rfl, .inl rfl, fun _ => rfl, by simp, hacD⟩
    | cons x xs =>
      have hmin := minS_any wD.heap.size 61 #[] sizeS ent_Trap2 qD cD x xs wD (Nat.le_refl _) (fun W s t hs ht hb hB => (Trap2_any s t W (hL64 s hs) (hL64 t ht)).mono (by rintro e W' ⟨h, rfl⟩; exact ⟨h, Below.refl _ _⟩)) hrowD hLl
      have hx64 : minFrom sizeS x xs < 64 := by
        rcases minFrom_mem sizeS xs x with h | h
        · rw [h]; exact hL64 x (by simp)
        · exact hL64 _ (by simp [h])
      have hne : (((x :: xs).length : Int) == 0) = false := beq_eq_false_iff_ne.2 (by simp; omega)
      have ha : ans = (listS (minFrom sizeS x xs), 0) := by rw [HANS.out, minFrom_first]
      subst ha
      have HMIN := Lib.hid hmin
      obtain ⟨L2, hL2⟩ : ∃ L2, (x :: xs).length = L2 := ⟨_, rfl⟩
      rw [hL2] at hne HMIN ⊢
      clear hmin hL2 hrowD hL64 hLl
      go_wp2_with (first
        | (go_at_call 60; refine HMIN.out.mono ?_; rintro e wE ⟨rfl, hbE⟩)
        | (go_at_call 54; refine (list_any _ _ hx64).mono ?_; rintro e w5 ⟨v5, rfl, hown5, hb5⟩; obtain ⟨q5, c5, rfl, hrow5, hq5, hqb5⟩ := rowV_of_owns hown5 (by intro h; rw [List.length_eq_zero_iff] at h; rw [h]; rfl)))
      go_ret2
      exact ⟨q5, c5, rfl, hrow5, hq5, fun a ha => ⟨Nat.le_trans (hacD.on hbE).size (hqb5 a ha).1, (hqb5 a ha).2⟩, (hacD.on hbE).on hb5⟩
  · have hans : trapOf n.toNat cs = ([], errD n cs) := by
      unfold trapOf
      rw [errD_nat, if_pos h0]
    rw [hans]
    have hb : (errD n cs != 0) = true := by simpa using h0
    clear hans h0 hr hb0
    go_enter Tryz.func11, Tryz.ntmps11
    go_wp2_with (go_at_call 18; refine C1.out.mono ?_; rintro e w1 ⟨rfl, hb1⟩)
    go_ret2
    exact ⟨none, 0, rfl, .inl rfl, fun _ => rfl, by simp, HB.out.on hb1⟩
end Go.Proofs.YtadamjleglckpaaGreat.drn

/- Package drain, the walks: plansOf, cheapestOf, leastOf. -/
namespace Go.Proofs.YtadamjleglckpaaGreat.drn
open Go.RowKit
set_option linter.unusedSimpArgs false
set_option linter.unusedVariables false

/-- a list in memory, from a block on -/
def ListAt (w : World) (lo : Nat) (v : Value) (l : List Int) : Prop := ∃ q c, v = .slice q l.length c ∧ RowV w q (flatI l) ∧ (q = none → c = 0) ∧ ∀ a, q = some a → lo ≤ a.block ∧ a.block < w.heap.size
theorem ListAt.below {w w' : World} {lo : Nat} {v : Value} {l : List Int} (h : ListAt w lo v l) {N : Nat} (hN : w.heap.size ≤ N) (hb : Below N w w') : ListAt w' lo v l := by
  obtain ⟨q, c, e, h1, h2, h3⟩ := h
  exact ⟨q, c, e, h1.below hN hb, h2, fun a ha => ⟨(h3 a ha).1, Nat.lt_of_lt_of_le (h3 a ha).2 hb.size⟩⟩
/-- lists in memory, from a block on -/
def ListsAt (w : World) (lo : Nat) (q : Option Addr) (vs : List Value) (ls : List (List Int)) : Prop := RowV w q vs ∧ InL (ListAt w lo) vs ls ∧ ∀ a, q = some a → lo ≤ a.block ∧ a.block < w.heap.size
theorem ListsAt.below {w w' : World} {lo : Nat} {q : Option Addr} {vs : List Value} {ls : List (List Int)} (h : ListsAt w lo q vs ls) {N : Nat} (hN : w.heap.size ≤ N) (hb : Below N w w') : ListsAt w' lo q vs ls :=
  ⟨h.1.below hN hb, InL.mono (fun v l h => h.below hN hb) h.2.1, fun a ha => ⟨(h.2.2 a ha).1, Nat.lt_of_lt_of_le (h.2.2 a ha).2 hb.size⟩⟩
theorem ListsAt.lower {w : World} {lo lo' : Nat} {q : Option Addr} {vs : List Value} {ls : List (List Int)} (h : ListsAt w lo q vs ls) (hl : lo' ≤ lo) : ListsAt w lo' q vs ls :=
  ⟨h.1, InL.mono (fun v l ⟨q, c, e, h1, h2, h3⟩ => ⟨q, c, e, h1, h2, fun a ha => ⟨Nat.le_trans hl (h3 a ha).1, (h3 a ha).2⟩⟩) h.2.1, fun a ha => ⟨Nat.le_trans hl (h.2.2 a ha).1, (h.2.2 a ha).2⟩⟩
/-- lists of lists that a call has made -/
def RetL (w : World) (ls : List (List Int)) (e : Ending) (w' : World) : Prop :=
  ∃ q c vs, e = .returned (.slice q ls.length c) ∧ vs.length = ls.length ∧ (ls = [] → q = none ∧ c = 0) ∧ ListsAt w' w.heap.size q vs ls ∧ Below w.heap.size w w' ∧ ls.length ≤ c

theorem begun_plans {n : Nat} (cs : List Ch) (hn : 1 ≤ n) : begunS n cs 0 [] 0 = plansS n cs := by
  have h0 : (0 : Nat) ≠ allS n := by
    unfold allS
    have : 2 ^ 1 ≤ 2 ^ n := Nat.pow_le_pow_right (by decide) hn
    omega
  rw [begunS, if_neg h0]
  rfl
theorem many_lists {w : World} {ls : List (List Int)} {e : Ending} {w' : World} (hne : ∀ l ∈ ls, l ≠ []) (h : ManyL w none ls e w') : RetL w ls e w' := by
  obtain ⟨q, c, vs, e1, h1, h2, h3, h4, h5, h6⟩ := h
  have hlen := h4.len
  refine ⟨q, c, vs, by rw [e1, hlen], hlen, fun h => h1 (List.eq_nil_of_length_eq_zero (by rw [hlen, h]; rfl)), ⟨h2, inL_mem ?_ h4, h3⟩, h5, by omega⟩
  rintro v l hl ⟨q', c', e, hr, hn, hq⟩
  refine ⟨q', c', e, hr, hn, fun a ha => ?_⟩
  rcases hq with hq | hq
  · rw [hq] at ha; cases ha
  · exact ⟨hq a ha, rowI_lt hr (hne l hl) a ha⟩
theorem plansS_ne (n : Nat) (cs : List Ch) : ∀ l ∈ plansS n cs, l ≠ [] := by
  intro l hl
  obtain ⟨x, r, rfl, _⟩ := plansFrom_head n cs _ _ _ _ l hl
  simp
theorem plansS_len {n : Nat} {cs : List Ch} (hc : Chs n cs) : (plansS n cs).length ≤ 16384 :=
  Nat.le_trans (plansFrom_len n cs cs.length 0 [] 0) (Nat.pow_le_pow_right (by decide) (show cs.length ≤ 14 from hc.many))
theorem plansS_in {n : Nat} {cs : List Ch} (hc : Chs n cs) : ∀ l ∈ plansS n cs, InR cs l ∧ l.length ≤ 14 := by
  intro l hl
  obtain ⟨h1, _⟩ := (mem_plansS hc.n1 hc.ok l).1 hl
  have h6 := (Ext.full hc.n6 hc.ok h1).1
  have := hc.n6
  exact ⟨ext_in h1, by omega⟩

set_option maxRecDepth 100000 in
theorem plansOf_any (n : Nat) (q : Option Addr) (cap : Nat) (cs : List Ch) (w : World) (hc : Chs n cs) (hr : RowV w q (flatT cs)) :
    Calls Tryz.prog 100 #[hillV n q cs.length cap] w (RetL w (plansS n cs)) := by
  have hb0 : Below w.heap.size w (w.alloc (.cells #[.int .i64 n, .slice q cs.length cap] 24)) := (Below.refl _ _).alloc (Nat.le_refl _) _
  have hr0 := hr.below (Nat.le_refl _) hb0
  have hch := channelsOf_any n q cap cs (w.alloc (.cells #[.int .i64 n, .slice q cs.length cap] 24)).drew hc hr0
  have hpl := fun W q3 c3 h3 => plansFrom_any n q cap cs hc (cs.length - 0) q3 c3 none 0 0 0 [] W rfl ⟨(fun x hx => nomatch hx), Nat.zero_le _, Nat.zero_le _, .inl ⟨rfl, rfl⟩⟩ (Nat.two_pow_pos n) h3 (.inl rfl) (fun _ => rfl)
  rw [begun_plans cs hc.n1] at hpl
  unfold hillV at *
  have HCH := Lib.hid hch
  have HPL := Lib.hid hpl
  have HB := Lib.hid hb0
  have HNE := Lib.hid (plansS_ne n cs)
  clear hch hpl hb0 hr hr0
  go_enter Tryz.func100, Tryz.ntmps100
  go_wp2
  obtain ⟨c0, c1⟩ : (w.alloc (.cells #[.int .i64 n, .slice q cs.length cap] 24)).cell? ⟨w.heap.size, 0, none⟩ = some (.int .i64 n) ∧ (w.alloc (.cells #[.int .i64 n, .slice q cs.length cap] 24)).cell? ⟨w.heap.size, 1, none⟩ = some (.slice q cs.length cap) := ⟨by simp, by simp⟩
  have hz0 : w.heap.size < (w.alloc (.cells #[.int .i64 n, .slice q cs.length cap] 24)).heap.size := by simp
  obtain ⟨W0, hW0⟩ : ∃ W0, w.alloc (.cells #[.int .i64 n, .slice q cs.length cap] 24) = W0 := ⟨_, rfl⟩
  rw [hW0] at c0 c1 hz0 HB HCH ⊢
  clear hW0
  go_region_held3 (fun W => W.cell? ⟨w.heap.size, 0, none⟩ = some (.int .i64 n) ∧ W.cell? ⟨w.heap.size, 1, none⟩ = some (.slice q cs.length cap)) (first | exact ⟨c0, c1⟩ | exact ⟨d0, d1⟩ | exact ⟨e0, e1⟩ | go_keep)
    (first
    | (go_at_call 53; refine HCH.out.mono ?_; rintro e w1 ⟨v1, rfl, hown1, hb1'⟩; have hb1 : Below W0.heap.size W0 w1 := (((Below.refl _ _).drew).on hb1'); have d0 := (hb1.cell (p := ⟨w.heap.size, 0, none⟩) hz0).trans c0; have d1 := (hb1.cell (p := ⟨w.heap.size, 1, none⟩) hz0).trans c1; obtain ⟨q1, cc1, rfl, hrow1, _, _⟩ := rowV_of_owns hown1 (by intro h; rw [List.length_eq_zero_iff] at h; rw [h]; rfl))
    | (go_at_call 131; refine (HPL.out w1 q1 cc1 hrow1).mono ?_; intro e w2 hmany; obtain ⟨q2, c2, vs, rfl, hvl, hnil, hls, hb2, hcap2⟩ := many_lists HNE.out hmany; have e0 := (hb2.cell (p := ⟨w.heap.size, 0, none⟩) (Nat.lt_of_lt_of_le hz0 hb1.size)).trans d0; have e1 := (hb2.cell (p := ⟨w.heap.size, 1, none⟩) (Nat.lt_of_lt_of_le hz0 hb1.size)).trans d1)
    | fail)
  go_wp2
  go_ret
  exact ⟨q2, c2, vs, rfl, hvl, hnil, hls.lower (Nat.le_trans HB.out.size hb1.size), (HB.out.on hb1).on hb2, hcap2⟩

/-- the first with the least number, from one that is there -/
def minG {α : Type} (f : α → Nat) (m : α) : List α → α
  | [] => m
  | x :: r => minG f (if f x < f m then x else m) r
theorem minG_first {α : Type} (f : α → Nat) (x : α) (r : List α) : firstMin f (x :: r) = some (minG f x r) := by
  have h := keepMin_all f (x :: r)
  rw [List.foldl_cons] at h
  have e : ∀ (l : List α) (m : α), l.foldl (keepMin f) (some m) = some (minG f m l) := by
    intro l
    induction l with
    | nil => intro m; rfl
    | cons y l ih =>
      intro m
      rw [List.foldl_cons]
      show List.foldl (keepMin f) (keepMin f (some m) y) l = some (minG f (if f y < f m then y else m) l)
      rw [← ih]
      congr 1
      unfold keepMin
      by_cases hlt : f y < f m
      · simp [hlt]
      · simp [hlt]
  rw [← h]
  exact e r x
theorem minG_mem {α : Type} (f : α → Nat) : ∀ (r : List α) (m : α), minG f m r = m ∨ minG f m r ∈ r
  | [], m => .inl rfl
  | x :: r, m => by
    unfold minG
    by_cases h : f x < f m
    · rw [if_pos h]
      rcases minG_mem f r x with h | h
      · exact .inr (by rw [h]; simp)
      · exact .inr (by simp [h])
    · rw [if_neg h]
      rcases minG_mem f r m with h | h
      · exact .inl h
      · exact .inr (by simp [h])

/-- a hill in a block, which a closure has captured -/
def HillAt (w : World) (B n : Nat) (q : Option Addr) (cap : Nat) (cs : List Ch) : Prop := B < w.heap.size ∧ w.cell? ⟨B, 0, none⟩ = some (.int .i64 n) ∧ w.cell? ⟨B, 1, none⟩ = some (.slice q cs.length cap) ∧ RowV w q (flatT cs)
theorem HillAt.below {w w' : World} {B n : Nat} {q : Option Addr} {cap : Nat} {cs : List Ch} (h : HillAt w B n q cap cs) {N : Nat} (hN : w.heap.size ≤ N) (hb : Below N w w') : HillAt w' B n q cap cs :=
  ⟨Nat.lt_of_lt_of_le h.1 hb.size, (hb.cell (p := ⟨B, 0, none⟩) (Nat.lt_of_lt_of_le h.1 hN)).trans h.2.1, (hb.cell (p := ⟨B, 1, none⟩) (Nat.lt_of_lt_of_le h.1 hN)).trans h.2.2.1, h.2.2.2.below hN hb⟩

set_option maxRecDepth 100000 in
set_option maxHeartbeats 1000000 in
theorem cheapest1_any (n B : Nat) (q : Option Addr) (cap : Nat) (cs : List Ch) (v1 v2 : Value) (l1 l2 : List Int) (lo : Nat) (w : World) (hc : Chs n cs) (hB : HillAt w B n q cap cs) (h1 : ListAt w lo v1 l1) (h2 : ListAt w lo v2 l2)
    (hi1 : InR cs l1) (hi2 : InR cs l2) (hl1 : l1.length ≤ 1000) (hl2 : l2.length ≤ 1000) :
    Calls Tryz.prog 130 #[v1, v2, .pointer (some ⟨B, 0, none⟩)] w fun e w' => (∃ c : Int, e = .returned (.int .i64 c) ∧ (c < 0 ↔ (costS cs l1).toNat < (costS cs l2).toNat)) ∧ Below w.heap.size w w' := by
  obtain ⟨q1, k1, rfl, hr1, _, _⟩ := h1
  obtain ⟨q2, k2, rfl, hr2, _, _⟩ := h2
  obtain ⟨z0, c0, c1, hr⟩ := hB
  have p1 := costS_bd hc.ok l1
  have p2 := costS_bd hc.ok l2
  have hco := fun W (qq : Option Addr) kk l hb hrr hii hll => costOf_any n q cap cs qq kk l W hc (hr.below (Nat.le_refl _) hb) hrr hii hll
  unfold hillV at hco
  have HCO := Lib.hid hco
  have HP := Lib.hid (And.intro p1.1 p2.1)
  have HR1 := Lib.hid hr1
  have HR2 := Lib.hid hr2
  have HI1 := Lib.hid hi1
  have HI2 := Lib.hid hi2
  clear hco p1 p2 hr1 hr2 hi1 hi2 hr
  go_enter Tryz.func130, Tryz.ntmps130
  go_wp2
  go_region_held3 (fun W => W.cell? ⟨B, 0, none⟩ = some (.int .i64 n) ∧ W.cell? ⟨B, 1, none⟩ = some (.slice q cs.length cap)) (first | exact ⟨c0, c1⟩ | exact ⟨d0, d1⟩ | exact ⟨e0, e1⟩ | go_keep)
    (first
    | (go_at_call 87; have hcc := HCO.out w.drew q1 k1 l1 (Below.refl _ _).drew (HR1.out.below (Nat.le_refl _) (Below.refl _ _).drew) HI1.out hl1; (with_reducible refine hcc.mono ?_); rintro e w1 ⟨rfl, hb1'⟩; have hb1 : Below w.heap.size w w1 := (((Below.refl _ _).drew).on hb1'); have d0 := (hb1.cell (p := ⟨B, 0, none⟩) z0).trans c0; have d1 := (hb1.cell (p := ⟨B, 1, none⟩) z0).trans c1)
    | (go_at_call 87; have hcc := HCO.out w1 q2 k2 l2 hb1 (HR2.out.below (Nat.le_refl _) hb1) HI2.out hl2; (with_reducible refine hcc.mono ?_); rintro e w2 ⟨rfl, hb2⟩; have hac2 : Below w.heap.size w w2 := hb1.on hb2; have e0 := (hac2.cell (p := ⟨B, 0, none⟩) z0).trans c0; have e1 := (hac2.cell (p := ⟨B, 1, none⟩) z0).trans c1)
    | (go_at_call 62; refine (cmpI_any _ _ _).mono ?_; rintro e w3 ⟨⟨c, rfl, hcc⟩, rfl⟩)
    | fail)
  go_wp2
  go_ret
  exact ⟨⟨c, rfl, by rw [hcc]; have := HP.out; omega⟩, hac2⟩
theorem ent_cheapest1 : Enters 130 := fun args w => by kernel_rfl
end Go.Proofs.YtadamjleglckpaaGreat.drn

/- slices.Sort at a list of ints of the call's own. -/
namespace Go.Proofs
open Go.Shelf Go.RowKit Go.Lib Go.Sort
shelf_lay_g SlLaysN.n53 Slgn 53 at Tryz 38 as Tryz.sortIn
end Go.Proofs

namespace Go.Proofs.YtadamjleglckpaaGreat.drn
open Go.RowKit
open Go.Sort (putRow Holds cell?_putRow size_putRow mapBlock grow)
set_option linter.unusedSimpArgs false
set_option linter.unusedVariables false

theorem holds_ints {w : World} {base g cap : Nat} {xs : List Int} (h : w.ownsRow base 3 1 (.slice (some ⟨g, 0, none⟩) xs.length cap) xs.length (flatI xs)) : Holds (Value.int .i64) w g 0 xs.toArray := by
  intro j hj
  have hj' : j < xs.length := by simpa using hj
  have h1 := h.cells (g := g) rfl j _ (flatI_get xs j hj')
  have h2 := h.frozenAt j
  rw [addr_add] at h1
  refine ⟨?_, by rw [Nat.zero_add]; exact h2⟩
  rw [Nat.zero_add, h1, getD_eq xs j 0 hj']
  congr 2
  rw [getElem!_pos xs.toArray j hj]
  simp
theorem sortI_length (l : List Int) : (sortI l).length = l.length := (sortI_perm l).length_eq
theorem sort_any (base g cap : Nat) (xs : List Int) (w : World) (hown : w.ownsRow base 3 1 (.slice (some ⟨g, 0, none⟩) xs.length cap) xs.length (flatI xs)) (hl : xs.length ≤ 1000000) :
    Calls Tryz.prog 38 #[.slice (some ⟨g, 0, none⟩) xs.length cap] w fun e w' => e = .returned (.tuple #[]) ∧ RowV w' (some ⟨g, 0, none⟩) (flatI (sortI xs)) ∧ But g w w' := by
  have hH := holds_ints hown
  have hlt := hown.lt g rfl
  have hcon := AnyG.slices_Sort_int Tryz.sortIn g 0 cap xs w hH hlt.2 (by omega)
  refine hcon.mono ?_
  rintro e w' ⟨rfl, n, os, rfl⟩
  refine ⟨rfl, .inr ⟨g, 0, rfl, ?_, fun j v hj => ?_⟩, ⟨rfl, rfl, rfl, ?_, fun k hk hne => ?_⟩⟩
  · simp; exact Nat.lt_of_lt_of_le hlt.2 (Nat.le_add_right _ _)
  · have hjl : j < (sortI xs).length := by
      have := (List.getElem?_eq_some_iff.1 hj).1
      rwa [flatI_length] at this
    rw [flatI_get _ _ hjl] at hj
    injection hj with hj
    subst hj
    have hs : (sortI xs).toArray.size = xs.toArray.size := by simp [sortI_length]
    have h1 := cell?_putRow (Value.int .i64) (Go.Sort.ahead w n) g 0 xs.toArray (sortI xs).toArray hH hs j (by simpa using hjl)
    have h2 : (grow (putRow (Value.int .i64) (Go.Sort.ahead w n) g 0 (sortI xs).toArray) os).cell? ⟨g, 0 + j, none⟩ = (putRow (Value.int .i64) (Go.Sort.ahead w n) g 0 (sortI xs).toArray).cell? ⟨g, 0 + j, none⟩ := by
      have hz : g < (putRow (Value.int .i64) (Go.Sort.ahead w n) g 0 (sortI xs).toArray).heap.size := by rw [size_putRow]; exact hlt.2
      simp only [World.cell?, grow, Array.getElem?_append_left hz]
    have e : (xs.mergeSort fun x y => decide (x ≤ y)) = sortI xs := rfl
    rw [e, h2, h1, getElem!_pos _ j (by simpa using hjl), getD_eq _ j 0 hjl]
    first | done | simp
  · simp
  · show ((putRow (Value.int .i64) (Go.Sort.ahead w n) g 0 _).heap ++ os)[k]? = _
    rw [Array.getElem?_append_left (by rw [size_putRow]; exact hk)]
    show (w.heap.modify g _)[k]? = _
    rw [Array.getElem?_modify, if_neg (Ne.symm hne)]
theorem sort_ok : SortOk := fun base g cap xs w hown hl => sort_any base g cap xs w hown hl
end Go.Proofs.YtadamjleglckpaaGreat.drn

/- Helpers of the law: plans: all plans in their order, and their costs. -/
namespace Go.Proofs.YtadamjleglckpaaGreat.drn
open Go.RowKit
set_option linter.unusedSimpArgs false
set_option linter.unusedVariables false
/-- lists in new memory, and a number for each -/
def PlansPost (w : World) (ls : List (List Int)) (ks : List Int) (e : Ending) (w' : World) : Prop :=
  ∃ q1 c1 vs q2 c2, e = .returned (.tuple #[.slice q1 ls.length c1, .slice q2 ls.length c2]) ∧ vs.length = ls.length ∧ RowV w' q1 vs ∧ InL (fun u l => ∃ q c, u = .slice q l.length c ∧ RowV w' q (flatI l)) vs ls ∧ RowV w' q2 (flatI ks) ∧ Below w.heap.size w w'
theorem one_new (W : World) (v : Value) (t : TypeId) (B : Nat) (hB : W.heap.size = B) : (W.alloc (.cells #[v] t)).cell? ⟨B, 0, none⟩ = some v ∧ (W.alloc (.cells #[v] t)).frozen? ⟨B, 0, none⟩ = false := by
  subst hB; exact ⟨by simp, by simp⟩
/-- the variables of plans -/
def W4 (w : World) (n : Nat) (q : Option Addr) (L cap : Nat) : World := (((w.alloc (.cells #[.int .i64 n, .slice q L cap] 24)).alloc (.cells #[.slice none 0 0] 58)).alloc (.cells #[.int .i64 n] 3)).alloc (.cells #[putV w.heap.size] 115)
theorem start4 (w : World) (n : Nat) (q : Option Addr) (L cap : Nat) (cs : List Ch) (hr : RowV w q (flatT cs)) (hq : ∀ a, q = some a → a.block < w.heap.size) (hL : cs.length = L) :
    Below w.heap.size w (W4 w n q L cap) ∧ (W4 w n q L cap).heap.size = w.heap.size + 4 ∧ PutC (W4 w n q L cap) w.heap.size n q cap cs ∧ OutP (W4 w n q L cap) w.heap.size (.slice none 0 0) [] [] := by
  unfold W4
  obtain ⟨A, hA⟩ : ∃ A, w.alloc (.cells #[.int .i64 n, .slice q L cap] 24) = A := ⟨_, rfl⟩
  have a1 : A.heap.size = w.heap.size + 1 := by rw [← hA]; simp
  have a2 := Cell2.new w w.heap.size rfl (.int .i64 n) (.slice q L cap) 24
  have a3 : Below w.heap.size w A := by rw [← hA]; exact (Below.refl _ _).alloc (Nat.le_refl _) _
  rw [hA] at a2 ⊢
  obtain ⟨C, hC⟩ : ∃ C, A.alloc (.cells #[.slice none 0 0] 58) = C := ⟨_, rfl⟩
  have c1 : C.heap.size = w.heap.size + 2 := by rw [← hC]; simp; omega
  have c2 := one_new A (.slice none 0 0) 58 (w.heap.size + 1) a1
  have c3 : Below (w.heap.size + 1) A C := by rw [← hC, ← a1]; exact (Below.refl _ _).alloc (Nat.le_refl _) _
  rw [hC] at c2 ⊢
  obtain ⟨D, hD⟩ : ∃ D, C.alloc (.cells #[.int .i64 n] 3) = D := ⟨_, rfl⟩
  have d1 : D.heap.size = w.heap.size + 3 := by rw [← hD]; simp; omega
  have d2 := one_new C (.int .i64 n) 3 (w.heap.size + 2) c1
  have d3 : Below (w.heap.size + 2) C D := by rw [← hD, ← c1]; exact (Below.refl _ _).alloc (Nat.le_refl _) _
  rw [hD] at d2 ⊢
  obtain ⟨E, hE⟩ : ∃ E, D.alloc (.cells #[putV w.heap.size] 115) = E := ⟨_, rfl⟩
  have e1 : E.heap.size = w.heap.size + 4 := by rw [← hE]; simp; omega
  have e2 := one_new D (putV w.heap.size) 115 (w.heap.size + 3) d1
  have e3 : Below (w.heap.size + 3) D E := by rw [← hE, ← d1]; exact (Below.refl _ _).alloc (Nat.le_refl _) _
  rw [hE] at e2 ⊢
  have hb : Below w.heap.size w E := ((a3.trans (c3.mono (by omega))).trans (d3.mono (by omega))).trans (e3.mono (by omega))
  refine ⟨hb, e1, ⟨by rw [hL]; exact ((a2.below (by omega) c3).below (by omega) d3).below (by omega) e3, (e3.cell (p := ⟨w.heap.size + 2, 0, none⟩) (by show w.heap.size + 2 < _; omega)).trans d2.1, e2.1, hr.below (Nat.le_refl _) hb, hq, by omega⟩, ⟨?_, ?_, World.ownsRow_nil _ _ _ _, trivial⟩⟩
  · exact ((e3.cell (p := ⟨w.heap.size + 1, 0, none⟩) (by show w.heap.size + 1 < _; omega)).trans (d3.cell (p := ⟨w.heap.size + 1, 0, none⟩) (by show w.heap.size + 1 < _; omega))).trans c2.1
  · exact ((e3.frozen (p := ⟨w.heap.size + 1, 0, none⟩) (by show w.heap.size + 1 < _; omega)).trans (d3.frozen (p := ⟨w.heap.size + 1, 0, none⟩) (by show w.heap.size + 1 < _; omega))).trans c2.2
theorem PFr.belowB {B : Nat} {ob : Option Nat} {W W' : World} (h : PFr B ob W W') (ho : ∀ g, ob = some g → B ≤ g) (hB : B ≤ W.heap.size) : Below B W W' :=
  ⟨h.os, h.tape, h.output, h.size, fun k hk => h.block k (by omega) (by omega) (fun e => by have := ho k e.symm; omega)⟩
theorem own_form {w : World} {base : Nat} {e : TypeId} {size : Nat} {v : Value} {n : Nat} {vs : List Value} (h : w.ownsRow base e size v n vs) (h0 : n = 0 → vs = []) : ∃ q c, v = .slice q n c ∧ RowV w q vs := by
  have hr := rowV_of_owns h h0
  first | exact hr | (obtain ⟨q, c, e, h⟩ := hr; exact ⟨q, c, e, h⟩) | (obtain ⟨q, c, e, h, _⟩ := hr; exact ⟨q, c, e, h⟩)
set_option maxRecDepth 100000 in
set_option maxHeartbeats 8000000 in
theorem plans_any (n cap : Nat) (q : Option Addr) (cs : List Ch) (w : World) (hc : Chs n cs) (hr : RowV w q (flatT cs)) (hq : ∀ a, q = some a → a.block < w.heap.size) :
    Calls Tryz.prog 26 #[hillV n q cs.length cap] w (PlansPost w (plansS n cs) ((plansS n cs).map (costS cs))) := by
  have HC := Lib.hid hc
  have HR := Lib.hid hr
  have HQ := Lib.hid hq
  obtain ⟨L, hL⟩ : ∃ L, cs.length = L := ⟨_, rfl⟩
  have HL := Lib.hid hL
  unfold hillV
  rw [hL]
  clear hc hr hq hL
  go_enter Tryz.func26, Tryz.ntmps26
  go_upto_region 5 with fail
  have hW := start4 w n q L cap cs HR.out HQ.out HL.out
  have HS := Lib.hid hW
  clear hW
  obtain ⟨W, hW⟩ : ∃ W, W4 w n q L cap = W := ⟨_, rfl⟩
  rw [hW] at HS
  unfold W4 at hW
  unfold putV at hW
  have s3 := HS.out.2.2.1.self
  unfold putV at s3
  rw [hW]
  clear hW
  have e3 : w.heap.size + 1 + 1 = w.heap.size + 2 := rfl
  have e4 : w.heap.size + 2 + 1 = w.heap.size + 3 := rfl
  rw [e3, e4]
  clear e3 e4
  have hput : Calls Tryz.prog 80 #[.slice none 0 0, .slice none 0 0, .pointer (some ⟨w.heap.size + 2, 0, none⟩), .pointer (some ⟨w.heap.size, 0, none⟩), .pointer (some ⟨w.heap.size + 3, 0, none⟩), .pointer (some ⟨w.heap.size + 1, 0, none⟩)] W (PutPost W w.heap.size (.slice none 0 0) ((putS n cs n [] []).map sortI)) := by
    obtain ⟨k, hk⟩ : ∃ k, k + 1 = n := ⟨n - 1, by have := HC.out.n1; omega⟩
    have h := put_top sort_ok w.heap.size n cap q cs HC.out.n1 HC.out.n6 HC.out.many HC.out.ok k (.slice none 0 0) [] [] W hk HS.out.2.2.1 HS.out.2.2.2 (by have := putS_small (n := n) HC.out.many (k + 1) [] []; simpa using this)
    rw [hk, List.nil_append] at h
    exact h
  have HPUT := Lib.hid hput
  clear hput
  obtain ⟨B, hB⟩ : ∃ B, w.heap.size = B := ⟨_, rfl⟩
  rw [hB] at HS HPUT s3 ⊢
  have HBW := Lib.hid hB
  go_upto_region 6 with (go_at_call 80; refine HPUT.out.mono ?_; rintro e W5 ⟨rfl, v5, vs5, hO5, hF5, hV5⟩)
  have s5 := hO5.cell
  have hsrt := sortO_any B v5 vs5 _ W5 hO5 (by rw [List.length_map]; exact putS_small HC.out.many _ _ _) (fun l hl => by
    obtain ⟨p, hp, rfl⟩ := List.mem_map.1 hl
    obtain ⟨r, rfl, h1, _⟩ := (mem_putS n cs n [] [] p).1 hp
    rw [sortI_length]
    have := HC.out.n6
    simp
    omega)
  have HSRT := Lib.hid hsrt
  have HF5 := Lib.hid hF5
  have HV5 := Lib.hid hV5
  have HO5 := Lib.hid hO5
  clear hsrt hF5 hV5 hO5
  go_upto_region 7 with (go_at_call 82; refine HSRT.out.mono ?_; rintro e W6 ⟨rfl, q6, c6, vs6, S, hv5, hp6, hs6, hl6, hr6, hq6, hin6, hF6, hc6⟩)
  have hSS := plans_put HC.out.n1 HC.out.n6 HC.out.ok hp6 hs6
  have hsz := HS.out.2.1
  have hC6 := (HS.out.2.2.1.go (ob := none) (by simp) HF5.out).go (ob := v5.ownBlock) (fun g hg => (HO5.out.ob g hg).1) hF6
  have hB6 : Below B w W6 := (HS.out.1.trans (HF5.out.belowB (by simp [Value.ownBlock]) (by omega))).trans (hF6.belowB (fun g hg => by have := (HO5.out.ob g hg).1; omega) (by have := HF5.out.size; omega))
  obtain ⟨x0, x1, x2, x3, x4⟩ := hC6.hill
  have hgl : ∀ l ∈ S, InR cs l ∧ l.length ≤ 14 := by rw [hSS]; exact plansS_in HC.out
  have hm6 : S.length ≤ 16384 := by rw [hp6.length_eq, List.length_map]; exact putS_small HC.out.many _ _ _
  rw [hv5] at hc6
  have hz6 := hC6.size
  have HROW := Lib.hid hC6.row
  have HIN := Lib.hid hin6
  have HR6 := Lib.hid hr6
  have HGL := Lib.hid hgl
  have HSS := Lib.hid hSS
  have HB6 := Lib.hid hB6
  have HL6 := Lib.hid hl6
  obtain ⟨m, hm⟩ : ∃ m, S.length = m := ⟨_, rfl⟩
  rw [hm] at hm6 hc6 ⊢
  rw [HL.out] at x2
  have HM := Lib.hid hm
  have hc5 : W6.cell? ⟨B + 1, 0, none⟩ = some (.slice q6 m c6) := hc6
  have hcm := HC.out.many
  rw [HL.out] at hcm
  clear hC6 hB6 hgl hp6 hs6 hl6 hr6 hin6 hF6 hc6 hv5 hSS x1 x3 x4 hm s3 s5 hq6 HPUT HSRT
  go_wp2
  go_loopw [7, 22] (fun v i wr => ∃ j : Nat, j ≤ m ∧ i = .int .i64 (j : Int) ∧ Hid (wr.ownsRow W6.heap.size 3 1 v ((S.take j).map (costS cs)).length (flatI ((S.take j).map (costS cs)))) ∧ Below W6.heap.size W6 wr) (fun _ i _ => m - (intOf i).toNat)
  case atStart => exact ⟨0, Nat.zero_le _, rfl, Lib.hid (World.ownsRow_nil _ _ _ _), Below.refl _ _⟩
  case round =>
    obtain ⟨j, hj, rfl, HO, hbel⟩ := hrel
    by_cases hjm : j < m
    · have hjS : j < S.length := by rw [HM.out]; exact hjm
      obtain ⟨u, hu, ql, cl, rfl, hrl⟩ := InL.get j HIN.out hjS
      obtain ⟨b, off, rfl, hb, hcell⟩ := HR6.out.here (k := j) (by rw [HL6.out]; exact hjS)
      have h1 := (hbel.cell (p := ⟨b, off + j, none⟩) hb).trans (hcell j _ hu)
      have hg := HGL.out _ (getD_mem S j [] hjS)
      have hto : (S.take (j + 1)).map (costS cs) = (S.take j).map (costS cs) ++ [costS cs (S.getD j [])] := by rw [getD_take S j [] hjS, List.map_append]; rfl
      have hxl : ((S.take j).map (costS cs)).length ≤ 16384 := by rw [List.length_map, List.length_take]; omega
      generalize (S.take j).map (costS cs) = xs at HO hto hxl
      generalize S.getD j [] = l at hrl hg hto h1
      have x2w := (hbel.cell (p := ⟨B, 1, none⟩) x0).trans x2
      have hrow := HROW.out.below (Nat.le_refl _) hbel
      have hrlw := hrl.below (Nat.le_refl _) hbel
      have hjmi : (j : Int) < (m : Int) := by omega
      have hbd : ∀ k, 0 ≤ costS cs (l.take k) ∧ costS cs (l.take k) ≤ 20000 := fun k => by
        have h := costS_bd HC.out.ok (l.take k)
        have : (l.take k).length ≤ 14 := by rw [List.length_take]; omega
        omega
      have HBD := Lib.hid hbd
      have HIL := Lib.hid hg.1
      have hl14 := hg.2
      have HTO := Lib.hid hto
      have HROWW := Lib.hid hrow
      have HRLW := Lib.hid hrlw
      have hsz6 := hbel.size
      clear hu hcell hg hto hrl hrow hrlw hbd hjS
      go_wp2
      go_loop [10, 28] (fun v i => ∃ k : Nat, k ≤ l.length ∧ i = .int .i64 (k : Int) ∧ v = .int .i64 (costS cs (l.take k))) (fun _ i => l.length - (intOf i).toNat)
      case atStart => exact ⟨0, Nat.zero_le _, rfl, rfl⟩
      case round =>
        obtain ⟨k, hk, rfl, rfl⟩ := hrel
        by_cases hlt : k < l.length
        · obtain ⟨b2, off2, rfl, hb2, g0⟩ := rowI_at HRLW.out hlt (Nat.le_refl _) (Below.refl _ _)
          have hx := HIL.out _ (getD_mem l k 0 hlt)
          have hst := cost_take_succ cs l k hlt
          generalize l.getD k 0 = x at g0 hx hst
          obtain ⟨x, rfl⟩ : ∃ m : Nat, x = m := ⟨x.toNat, by omega⟩
          have hxl2 : x < cs.length := by omega
          obtain ⟨b3, off3, rfl, hb3, g1, g2, g3⟩ := rowT_at HROWW.out hxl2 (Nat.le_refl _) (Below.refl _ _)
          rw [Int.toNat_natCast] at hst
          have hk1 := HBD.out k
          have hk2 := HBD.out (k + 1)
          generalize cs.getD x (0, 0, 0) = c at g1 g2 g3 hst
          generalize costS cs (l.take k) = s at hst hk1 ⊢
          have hw : IntKind.i64.wrap (s + c.2.2) = s + c.2.2 := IntWalk.i64_in _ ⟨by omega, by omega⟩
          have hxi : (x : Int) < (L : Int) := by have := HL.out; omega
          have hki : (k : Int) < (l.length : Int) := by omega
          have HST := Lib.hid hst
          clear hst hx hk1 hk2 hxl2
          go_wp2
          go_round
          case rel => exact ⟨k + 1, hlt, by go_num, by rw [HST.out]⟩
          case measure => simp [intOf]; omega
        · obtain rfl : k = l.length := by omega
          rw [List.take_length]
          go_wp2_with (at_builtin; refine app_int _ rfl (.tmp 41) (.tmp 43) rfl W6.heap.size _ xs (costS cs l) rfl (HO.out.alloc _) wr.heap.size 1 rfl (by simp) (by omega) (by simp; omega) ?_; intro v2 w2 hown2 hgr2 hbk2; have hb2 : Below W6.heap.size W6 w2 := hbel.trans (((Below.refl _ _).alloc hbel.size _).trans (grown_below (HO.out.alloc _) (by simp; omega) hgr2)))
          clear hgr2 hbk2
          go_roundw
          case rel => exact ⟨j + 1, hjm, by go_num, Lib.hid (by rw [HTO.out]; exact hown2), hb2⟩
          case measure => simp [intOf]; omega
    · obtain rfl : j = m := by omega
      have hcw := (hbel.cell (p := ⟨B + 1, 0, none⟩) (by show B + 1 < _; omega)).trans hc5
      have hO := HO.out
      rw [← HM.out, List.take_length] at hO
      obtain ⟨q2, c2, hv2, hr2⟩ := own_form hO (fun h => by rw [List.length_eq_zero_iff.1 h]; rfl)
      have HFIN := Lib.hid (show PlansPost w (plansS n cs) ((plansS n cs).map (costS cs)) (.returned (.tuple #[.slice q6 j c6, .slice q2 S.length c2])) wr from by
        rw [← HSS.out]
        refine ⟨q6, c6, vs6, q2, c2, by rw [HM.out], HL6.out, HR6.out.below (Nat.le_refl _) hbel, InL.mono (fun u l ⟨q, c, e, k⟩ => ⟨q, c, e, k.below (Nat.le_refl _) hbel⟩) HIN.out, hr2, ?_⟩
        rw [HBW.out]
        exact HB6.out.trans (hbel.mono (by omega)))
      rw [List.length_map] at hv2
      subst hv2
      clear hO hr2
      go_wp2
      go_ret2
      exact HFIN.out
end Go.Proofs.YtadamjleglckpaaGreat.drn

