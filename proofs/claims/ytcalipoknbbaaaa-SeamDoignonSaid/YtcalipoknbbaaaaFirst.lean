/- cmp.Compare and slices.Compare at ints; first (a helper of the law): the first of the shortest lists of indices that pass a test. -/
import Derived.Test.YtcalipoknbbaaaaSeamp
namespace Go.Proofs.Ytcalipoknbbaaaa
open Go.RowKit
set_option linter.unusedSimpArgs false
set_option linter.unusedVariables false

def cmp1 (x y : Int) : Int := if x < y then -1 else if y < x then 1 else 0

set_option maxHeartbeats 400000 in
theorem isNaN_any (x : Int) (w : World) : Calls Try.prog 163 #[.int .i64 x] w fun e w' => e = .returned (.bool false) ∧ w = w' := by
  go_enter Try.func163, Try.ntmps163
  go_wp2
  go_ret
  exact ⟨ret_bool (by simp), rfl⟩

set_option maxHeartbeats 400000 in
theorem cmpC_any (x y : Int) (w : World) : Calls Try.prog 141 #[.int .i64 x, .int .i64 y] w fun e w' => e = .returned (.int .i64 (cmp1 x y)) ∧ w = w' := by
  by_cases h1 : x < y
  · have e1 : cmp1 x y = -1 := by rw [cmp1, if_pos h1]
    rw [e1]
    clear e1
    go_enter Try.func141, Try.ntmps141
    go_wp2_with (go_at_call 163; refine (isNaN_any _ _).mono ?_; rintro e w1 ⟨rfl, rfl⟩)
    go_ret
    exact ⟨rfl, rfl⟩
  · by_cases h2 : y < x
    · have e1 : cmp1 x y = 1 := by rw [cmp1, if_neg h1, if_pos h2]
      rw [e1]
      clear e1
      go_enter Try.func141, Try.ntmps141
      go_wp2_with (go_at_call 163; refine (isNaN_any _ _).mono ?_; rintro e w1 ⟨rfl, rfl⟩)
      go_ret
      exact ⟨rfl, rfl⟩
    · have e1 : cmp1 x y = 0 := by rw [cmp1, if_neg h1, if_neg h2]
      rw [e1]
      clear e1
      go_enter Try.func141, Try.ntmps141
      go_wp2_with (go_at_call 163; refine (isNaN_any _ _).mono ?_; rintro e w1 ⟨rfl, rfl⟩)
      go_ret
      exact ⟨rfl, rfl⟩

theorem cmpI_step {xs ys : List Int} {k : Nat} (h1 : k < xs.length) (h2 : k < ys.length) :
    cmpI (xs.drop k) (ys.drop k) = if cmp1 (xs.getD k 0) (ys.getD k 0) = 0 then cmpI (xs.drop (k + 1)) (ys.drop (k + 1)) else cmp1 (xs.getD k 0) (ys.getD k 0) := by
  rw [List.drop_eq_getElem_cons h1, List.drop_eq_getElem_cons h2, cmpI, ← getD_eq xs k 0 h1, ← getD_eq ys k 0 h2]
  unfold cmp1
  split
  · simp
  · split
    · simp
    · simp

set_option maxHeartbeats 400000 in
theorem compare_any (q1 q2 : Option Addr) (c1 c2 : Nat) (xs ys : List Int) (w : World) (h1 : RowI w q1 xs) (h2 : RowI w q2 ys) (l1 : xs.length ≤ 1000000) (l2 : ys.length ≤ 1000000) :
    Calls Try.prog 88 #[.slice q1 xs.length c1, .slice q2 ys.length c2] w fun e w' => e = .returned (.int .i64 (cmpI xs ys)) ∧ w = w' := by
  have H1 := Lib.hid h1
  have H2 := Lib.hid h2
  clear h1 h2
  go_enter Try.func88, Try.ntmps88
  go_wp2
  go_loop [11] (fun i => ∃ k : Nat, k ≤ xs.length ∧ k ≤ ys.length ∧ i = .int .i64 k ∧ cmpI xs ys = cmpI (xs.drop k) (ys.drop k)) (fun i => xs.length - (intOf i).toNat)
  case atStart => exact ⟨0, Nat.zero_le _, Nat.zero_le _, rfl, rfl⟩
  case round =>
    obtain ⟨k, hk, hk2, rfl, he⟩ := hrel
    by_cases hlt : k < xs.length
    · obtain ⟨b, off, rfl, hb, g1⟩ := H1.out.at hlt (Nat.le_refl _) (Below.refl _ w)
      by_cases hlt2 : k < ys.length
      · obtain ⟨b', off', rfl, hb', g2⟩ := H2.out.at hlt2 (Nat.le_refl _) (Below.refl _ w)
        have hst := cmpI_step hlt hlt2
        rw [hst] at he
        have HE := Lib.hid he
        clear he hst
        generalize xs.getD k 0 = x at g1 HE
        generalize ys.getD k 0 = y at g2 HE
        by_cases hc : cmp1 x y = 0
        · have hcb : (cmp1 x y != 0) = false := by simp [hc]
          have e2 := HE.out.trans (if_pos hc)
          have E2 := Lib.hid e2
          clear hc e2
          go_wp2_with (go_at_call 141; refine (cmpC_any _ _ _).mono ?_; rintro e w1 ⟨rfl, rfl⟩)
          go_round
          case rel => exact ⟨k + 1, hlt, hlt2, by go_num, E2.out⟩
          case measure => simp [intOf]; omega
        · have hcb : (cmp1 x y != 0) = true := by simp [hc]
          have e2 := HE.out.trans (if_neg hc)
          have E2 := Lib.hid e2
          clear hc e2
          go_wp2_with (go_at_call 141; refine (cmpC_any _ _ _).mono ?_; rintro e w1 ⟨rfl, rfl⟩)
          go_ret
          exact ⟨ret_int E2.out.symm, rfl⟩
      · obtain rfl : k = ys.length := by omega
        have e3 : cmpI xs ys = 1 := by
          rw [he, List.drop_length, List.drop_eq_getElem_cons hlt]; rfl
        have E3 := Lib.hid e3
        clear e3 he
        go_wp2
        go_ret
        exact ⟨ret_int E3.out.symm, rfl⟩
    · obtain rfl : k = xs.length := by omega
      by_cases hlt2 : xs.length < ys.length
      · have e3 : cmpI xs ys = -1 := by
          rw [he, List.drop_length, List.drop_eq_getElem_cons hlt2]; rfl
        have E3 := Lib.hid e3
        clear e3 he
        go_wp2
        go_ret
        exact ⟨ret_int E3.out.symm, rfl⟩
      · have e3 : cmpI xs ys = 0 := by
          rw [he, List.drop_length, show xs.length = ys.length by omega, List.drop_length]; rfl
        have E3 := Lib.hid e3
        clear e3 he
        go_wp2
        go_ret
        exact ⟨ret_int E3.out.symm, rfl⟩
end Go.Proofs.Ytcalipoknbbaaaa
namespace Go.Proofs.Ytcalipoknbbaaaa
open Go.RowKit
set_option linter.unusedSimpArgs false
set_option linter.unusedVariables false

/-- what a test that is handed to first has to answer -/
def TestsI (w : World) (pf : Nat) (lb : Array Value) (good : List Int → Bool) : Prop :=
  ∀ (W : World) (xs : List Int) (q : Option Addr) (c : Nat), Below w.heap.size w W → RowI W q xs → xs.length ≤ 12 →
    Calls Try.prog pf (#[.slice q xs.length c] ++ lb) W fun e W' => e = .returned (.bool (good xs)) ∧ Below W.heap.size W W'
/-- the same, for the lists that it is handed alone -/
def TestsK (w : World) (pf : Nat) (lb : Array Value) (good : List Int → Bool) (N : Nat) : Prop :=
  ∀ (W : World) (k : Nat) (q : Option Addr) (c : Nat), k < N → Below w.heap.size w W → RowI W q (membL k) →
    Calls Try.prog pf (#[.slice q (membL k).length c] ++ lb) W fun e W' => e = .returned (.bool (good (membL k))) ∧ Below W.heap.size W W'
/-- what has been found -/
def StF (good : List Int → Bool) (k : Nat) (xs : List Int) (fd : Bool) : Prop := xs.length ≤ 12 ∧ ((fd = false ∧ lawFirst good k = none ∧ xs = []) ∨ (fd = true ∧ lawFirst good k = some xs))
def FoundF (w : World) (o : Option (List Int)) (e : Ending) (w' : World) : Prop :=
  ∃ q c xs fd, e = .returned (.tuple #[.slice q xs.length c, .bool fd]) ∧ RowI w' q xs ∧ ((fd = false ∧ o = none ∧ xs = []) ∨ (fd = true ∧ o = some xs)) ∧ Below w.heap.size w w'

theorem memb_len (s : Nat) : (membL s).length ≤ 12 := membTo_le s 12
theorem StF.none {good : List Int → Bool} {k : Nat} {xs : List Int} (h : StF good k xs false) : lawFirst good k = none ∧ xs = [] := by
  rcases h.2 with ⟨_, h1, h2⟩ | ⟨h1, _⟩
  · exact ⟨h1, h2⟩
  · cases h1
theorem StF.some {good : List Int → Bool} {k : Nat} {xs : List Int} (h : StF good k xs true) : lawFirst good k = some xs := by
  rcases h.2 with ⟨h1, _⟩ | ⟨_, h1⟩
  · cases h1
  · exact h1
/-- a list is taken -/
theorem StF.yes0 {good : List Int → Bool} {k : Nat} {xs : List Int} (h : StF good k xs false) (hg : good (membL k) = true) : StF good (k + 1) (membL k) true :=
  ⟨memb_len k, .inr ⟨rfl, by rw [lawFirst, h.none.1]; simp only; rw [if_pos hg]⟩⟩
theorem StF.no0 {good : List Int → Bool} {k : Nat} {xs : List Int} (h : StF good k xs false) (hg : good (membL k) = false) : StF good (k + 1) xs false :=
  ⟨h.1, .inl ⟨rfl, by rw [lawFirst, h.none.1]; simp only; rw [if_neg (by simp [hg])], h.none.2⟩⟩
def better (l b : List Int) : Bool := decide (l.length < b.length) || l.length == b.length && decide (cmpI l b < 0)
theorem StF.yes1 {good : List Int → Bool} {k : Nat} {xs : List Int} (h : StF good k xs true) (hb : better (membL k) xs = true) (hg : good (membL k) = true) : StF good (k + 1) (membL k) true :=
  ⟨memb_len k, .inr ⟨rfl, by rw [lawFirst, h.some]; simp only; rw [if_pos]; unfold better at hb; rw [hb, hg]; rfl⟩⟩
theorem StF.no1 {good : List Int → Bool} {k : Nat} {xs : List Int} (h : StF good k xs true) (hb : (better (membL k) xs && good (membL k)) = false) : StF good (k + 1) xs true :=
  ⟨h.1, .inr ⟨rfl, by rw [lawFirst, h.some]; simp only; rw [if_neg]; unfold better at hb; rw [hb]; simp⟩⟩

set_option maxRecDepth 100000 in
set_option maxHeartbeats 2000000 in
theorem first_gen (n pf : Nat) (lb : Array Value) (good : List Int → Bool) (w : World) (hn : n ≤ 12) (eg : ∀ args w, (callFunc pf args).run Try.prog w = .ok (.enter pf args) w) (ht : TestsK w pf lb good (2 ^ n)) :
    Calls Try.prog 66 #[.int .i64 n, .func (.func pf) #[] lb] w (FoundF w (lawFirst good (2 ^ n))) := by
  have EG := Lib.hid eg
  have HT := Lib.hid ht
  clear eg ht
  have hp : 2 ^ n ≤ 4096 := Nat.pow_le_pow_right (by omega) (show n ≤ 12 by omega)
  obtain ⟨N, hN⟩ : ∃ N, 2 ^ n = N := ⟨_, rfl⟩
  have hpe : (2 : Int) ^ n = (N : Int) := by rw [← hN]; simp
  rw [hN] at hp ⊢
  rw [hN] at HT
  have hw : wrap64 ((2 : Int) ^ n) = (N : Int) := by rw [hpe, IntWalk.wrap64_in _ ⟨by omega, by omega⟩]
  have HW := Lib.hid hw
  clear hpe hN hw
  go_enter Try.func66, Try.ntmps66
  go_wp2
  rw [HW.out]
  go_loopw [6, 7, 12] (fun v f i wr => ∃ (k : Nat) (xs : List Int) (q : Option Addr) (c : Nat) (fd : Bool), k ≤ N ∧ i = .int .i64 k ∧ v = .slice q xs.length c ∧ f = .bool fd ∧ RowI wr q xs ∧ StF good k xs fd ∧ Below w.heap.size w wr) (fun _ _ i _ => N - (intOf i).toNat)
  case atStart => exact ⟨0, [], none, 0, false, Nat.zero_le _, rfl, rfl, rfl, .inl rfl, ⟨by simp, .inl ⟨rfl, rfl, rfl⟩⟩, Below.refl _ _⟩
  case round =>
    obtain ⟨k, xs, q, c, fd, hk, rfl, rfl, rfl, hrow, hst, hbel⟩ := hrel
    have hlx := hst.1
    have HR := Lib.hid hrow
    have HS := Lib.hid hst
    clear hrow hst
    by_cases hlt : k < N
    · have hk4 : k < 4096 := by omega
      have hml := memb_len k
      have HM := Lib.hid hml
      obtain ⟨l, hle⟩ : ∃ l, membL k = l := ⟨_, rfl⟩
      have cm := members_any k wr hk4
      rw [hle] at cm hml
      have CM := Lib.hid cm
      have HLE := Lib.hid hle
      clear cm hle
      cases fd with
      | false =>
        go_wp2_with (go_at_call 87; refine CM.out.mono ?_; rintro e w1 ⟨q1, c1, rfl, r1, hb1⟩)
        have hbw := hbel.trans (hb1.mono hbel.size)
        have ct := (by have := HT.out w1 k q1 c1 hlt hbw (by rw [HLE.out]; exact r1); rwa [HLE.out] at this : Calls Try.prog pf (#[.slice q1 l.length c1] ++ lb) w1 fun e W' => e = .returned (.bool (good l)) ∧ Below w1.heap.size w1 W')
        have CT := Lib.hid ct
        have R1 := Lib.hid r1
        clear ct r1
        rw [EG.out, Oper.upon_enter]
        refine CT.out.mono ?_
        rintro e w2 ⟨rfl, hb2⟩
        dsimp only
        have hbw2 := hbw.trans (hb2.mono hbw.size)
        have r2 := R1.out.below (Nat.le_refl _) hb2
        have rx := (HR.out.below (Nat.le_refl _) hb1).below (Nat.le_refl _) hb2
        obtain ⟨yes, hy⟩ : ∃ yes, good l = yes := ⟨_, rfl⟩
        rw [hy]
        have HY := Lib.hid hy
        have R2 := Lib.hid r2
        have RX := Lib.hid rx
        clear hy r2 rx
        cases yes with
        | true =>
          go_wp2
          go_roundw
          case rel => exact ⟨k + 1, l, q1, c1, true, hlt, by go_num, rfl, rfl, R2.out, by rw [← HLE.out]; exact HS.out.yes0 (by rw [HLE.out]; exact HY.out), hbw2⟩
          case measure => simp [intOf]; omega
        | false =>
          go_wp2
          go_roundw
          case rel => exact ⟨k + 1, xs, q, c, false, hlt, by go_num, rfl, rfl, RX.out, HS.out.no0 (by rw [HLE.out]; exact HY.out), hbw2⟩
          case measure => simp [intOf]; omega
      | true =>
        by_cases hA : l.length < xs.length
        · have HBT := Lib.hid (show better l xs = true by unfold better; rw [decide_eq_true hA]; rfl)
          go_wp2_with (first
            | (go_at_call 87; refine CM.out.mono ?_; rintro e w1 ⟨q1, c1, rfl, r1, hb1⟩)
            | (go_at_call 88; refine (compare_any q1 q c1 c l xs _ r1 (HR.out.below (Nat.le_refl _) hb1) (by omega) (by omega)).mono ?_; rintro e w1' ⟨rfl, rfl⟩))
          have hbw := hbel.trans (hb1.mono hbel.size)
          have ct := (by have := HT.out w1 k q1 c1 hlt hbw (by rw [HLE.out]; exact r1); rwa [HLE.out] at this : Calls Try.prog pf (#[.slice q1 l.length c1] ++ lb) w1 fun e W' => e = .returned (.bool (good l)) ∧ Below w1.heap.size w1 W')
          have CT := Lib.hid ct
          have R1 := Lib.hid r1
          clear ct r1
          rw [EG.out, Oper.upon_enter]
          refine CT.out.mono ?_
          rintro e w2 ⟨rfl, hb2⟩
          dsimp only
          have hbw2 := hbw.trans (hb2.mono hbw.size)
          have r2 := R1.out.below (Nat.le_refl _) hb2
          have rx := (HR.out.below (Nat.le_refl _) hb1).below (Nat.le_refl _) hb2
          obtain ⟨yes, hy⟩ : ∃ yes, good l = yes := ⟨_, rfl⟩
          rw [hy]
          have HY := Lib.hid hy
          have R2 := Lib.hid r2
          have RX := Lib.hid rx
          clear hy r2 rx
          cases yes with
          | true =>
            go_wp2
            go_roundw
            case rel => exact ⟨k + 1, l, q1, c1, true, hlt, by go_num, rfl, rfl, R2.out, by rw [← HLE.out]; exact HS.out.yes1 (by rw [HLE.out]; exact HBT.out) (by rw [HLE.out]; exact HY.out), hbw2⟩
            case measure => simp [intOf]; omega
          | false =>
            go_wp2
            go_roundw
            case rel => exact ⟨k + 1, xs, q, c, true, hlt, by go_num, rfl, rfl, RX.out, HS.out.no1 (by rw [HLE.out, HY.out, Bool.and_false]), hbw2⟩
            case measure => simp [intOf]; omega
        · by_cases hB : l.length = xs.length
          · have hBb : ((l.length : Int) == (xs.length : Int)) = true := by simp [hB]
            have hA' : decide ((l.length : Int) < (xs.length : Int)) = false := by simp; omega
            by_cases hC : cmpI l xs < 0
            · have HBT := Lib.hid (show better l xs = true by unfold better; rw [decide_eq_true hC, hB]; simp)
              have HB := Lib.hid hB
              clear hB
              go_wp2_with (first
                | (go_at_call 87; refine CM.out.mono ?_; rintro e w1 ⟨q1, c1, rfl, r1, hb1⟩)
                | (go_at_call 88; refine (compare_any q1 q c1 c l xs _ r1 (HR.out.below (Nat.le_refl _) hb1) (by omega) (by omega)).mono ?_; rintro e w1' ⟨rfl, rfl⟩))
              have hbw := hbel.trans (hb1.mono hbel.size)
              have ct := (by have := HT.out w1 k q1 c1 hlt hbw (by rw [HLE.out]; exact r1); rwa [HLE.out] at this : Calls Try.prog pf (#[.slice q1 l.length c1] ++ lb) w1 fun e W' => e = .returned (.bool (good l)) ∧ Below w1.heap.size w1 W')
              have CT := Lib.hid ct
              have R1 := Lib.hid r1
              clear ct r1
              rw [EG.out, Oper.upon_enter]
              refine CT.out.mono ?_
              rintro e w2 ⟨rfl, hb2⟩
              dsimp only
              have hbw2 := hbw.trans (hb2.mono hbw.size)
              have r2 := R1.out.below (Nat.le_refl _) hb2
              have rx := (HR.out.below (Nat.le_refl _) hb1).below (Nat.le_refl _) hb2
              obtain ⟨yes, hy⟩ : ∃ yes, good l = yes := ⟨_, rfl⟩
              rw [hy]
              have HY := Lib.hid hy
              have R2 := Lib.hid r2
              have RX := Lib.hid rx
              clear hy r2 rx
              cases yes with
              | true =>
                go_wp2
                go_roundw
                case rel => exact ⟨k + 1, l, q1, c1, true, hlt, by go_num, rfl, rfl, R2.out, by rw [← HLE.out]; exact HS.out.yes1 (by rw [HLE.out]; exact HBT.out) (by rw [HLE.out]; exact HY.out), hbw2⟩
                case measure => simp [intOf]; omega
              | false =>
                go_wp2
                go_roundw
                case rel => exact ⟨k + 1, xs, q, c, true, hlt, by go_num, rfl, rfl, RX.out, HS.out.no1 (by rw [HLE.out, HY.out, Bool.and_false]), hbw2⟩
                case measure => simp [intOf]; omega
            · have HBT := Lib.hid (show better l xs = false by unfold better; rw [decide_eq_false hC, decide_eq_false hA, Bool.and_false]; rfl)
              have hC' : decide (cmpI l xs < 0) = false := decide_eq_false hC
              have HB := Lib.hid hB
              clear hB
              go_wp2_with (first
                | (go_at_call 87; refine CM.out.mono ?_; rintro e w1 ⟨q1, c1, rfl, r1, hb1⟩)
                | (go_at_call 88; refine (compare_any q1 q c1 c l xs _ r1 (HR.out.below (Nat.le_refl _) hb1) (by omega) (by omega)).mono ?_; rintro e w1' ⟨rfl, rfl⟩))
              have rx := HR.out.below (Nat.le_refl _) hb1
              have hbw := hbel.trans (hb1.mono hbel.size)
              have RX := Lib.hid rx
              clear rx
              go_roundw
              case rel => exact ⟨k + 1, xs, q, c, true, hlt, by go_num, rfl, rfl, RX.out, HS.out.no1 (by rw [HLE.out, HBT.out, Bool.false_and]), hbw⟩
              case measure => simp [intOf]; omega
          · have hBb : ((l.length : Int) == (xs.length : Int)) = false := by simp; omega
            have hA' : decide ((l.length : Int) < (xs.length : Int)) = false := by simp; omega
            have HBT := Lib.hid (show better l xs = false by unfold better; rw [decide_eq_false hA, show (l.length == xs.length) = false by simpa using hB]; rfl)
            have HB := Lib.hid hB
            clear hB
            go_wp2_with (first
              | (go_at_call 87; refine CM.out.mono ?_; rintro e w1 ⟨q1, c1, rfl, r1, hb1⟩)
              | (go_at_call 88; refine (compare_any q1 q c1 c l xs _ r1 (HR.out.below (Nat.le_refl _) hb1) (by omega) (by omega)).mono ?_; rintro e w1' ⟨rfl, rfl⟩))
            have rx := HR.out.below (Nat.le_refl _) hb1
            have hbw := hbel.trans (hb1.mono hbel.size)
            have RX := Lib.hid rx
            clear rx
            go_roundw
            case rel => exact ⟨k + 1, xs, q, c, true, hlt, by go_num, rfl, rfl, RX.out, HS.out.no1 (by rw [HLE.out, HBT.out, Bool.false_and]), hbw⟩
            case measure => simp [intOf]; omega
    · obtain rfl : k = N := by omega
      go_wp2
      go_ret2
      exact ⟨q, c, xs, fd, rfl, HR.out, by cases fd with
        | false => exact .inl ⟨rfl, HS.out.none.1, HS.out.none.2⟩
        | true => exact .inr ⟨rfl, HS.out.some⟩, hbel⟩
theorem first_any (n pf : Nat) (lb : Array Value) (good : List Int → Bool) (w : World) (hn : n ≤ 10) (eg : ∀ args w, (callFunc pf args).run Try.prog w = .ok (.enter pf args) w) (ht : TestsI w pf lb good) :
    Calls Try.prog 66 #[.int .i64 n, .func (.func pf) #[] lb] w (FoundF w (lawFirst good (2 ^ n))) :=
  first_gen n pf lb good w (by omega) eg fun W k q c _ hb hr => ht W (membL k) q c hb hr (memb_len k)
end Go.Proofs.Ytcalipoknbbaaaa
