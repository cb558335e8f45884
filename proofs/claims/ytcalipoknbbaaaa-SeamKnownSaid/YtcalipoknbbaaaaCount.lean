/- The walk of count (package seam): how many places of a grid agree with all galleries. -/
import Derived.Test.YtcalipoknbbaaaaAgree
namespace Go.Proofs.Ytcalipoknbbaaaa
open Go.RowKit

/-- the places of column x, up to a row -/
def rowL (x j : Nat) : List Pl := (List.range j).map fun y : Nat => ((x : Int), (y : Int))
/-- the first columns of a grid -/
def cols (n i : Nat) : List Pl := (List.range i).flatMap fun x : Nat => rowL x n
def gridL (n : Nat) : List Pl := cols n n
/-- how many places of a grid agree with all galleries -/
def cnt (n : Nat) (gs : List Gl) : Nat := (gridL n).countP (agrAll gs)

theorem rowL_succ (x j : Nat) : rowL x (j + 1) = rowL x j ++ [((x : Int), (j : Int))] := by simp [rowL, List.range_succ]
theorem cols_succ (n i : Nat) : cols n (i + 1) = cols n i ++ rowL i n := by simp [cols, List.range_succ]

theorem rowL_length (x j : Nat) : (rowL x j).length = j := by simp [rowL]
theorem cols_length (n : Nat) : ∀ i, (cols n i).length = i * n
  | 0 => by simp [cols]
  | i + 1 => by rw [cols_succ, List.length_append, cols_length n i, rowL_length, Nat.add_mul, Nat.one_mul]

/-- how many have been counted when column i has been counted up to row j -/
def cntTo (n : Nat) (gs : List Gl) (i j : Nat) : Nat := (cols n i ++ rowL i j).countP (agrAll gs)

theorem cntTo_zero (n : Nat) (gs : List Gl) : cntTo n gs 0 0 = 0 := by simp [cntTo, cols, rowL]
theorem cntTo_step (n : Nat) (gs : List Gl) (i j : Nat) : cntTo n gs i (j + 1) = cntTo n gs i j + (if agrAll gs ((i : Int), (j : Int)) then 1 else 0) := by
  simp only [cntTo, rowL_succ, List.countP_append, List.countP_singleton]; omega
theorem cntTo_col (n : Nat) (gs : List Gl) (i : Nat) : cntTo n gs i n = cntTo n gs (i + 1) 0 := by
  simp [cntTo, cols_succ, rowL]
theorem cntTo_all (n : Nat) (gs : List Gl) : cntTo n gs n 0 = cnt n gs := by simp [cntTo, cnt, gridL, rowL]
theorem cntTo_le (n : Nat) (gs : List Gl) (i j : Nat) : cntTo n gs i j ≤ i * n + j := by
  unfold cntTo
  refine Nat.le_trans List.countP_le_length ?_
  rw [List.length_append, cols_length, rowL_length]
  exact Nat.le_refl _
theorem cntTo_bd {n : Nat} {gs : List Gl} {i j : Nat} (hn : n ≤ 1000) (hi : i ≤ n) (hj : j ≤ n) : cntTo n gs i j ≤ 1001000 := by
  have h1 := cntTo_le n gs i j
  have h2 : i * n ≤ 1000 * 1000 := Nat.mul_le_mul (by omega) hn
  omega

set_option maxHeartbeats 1000000 in
theorem count_any (n : Nat) (q : Option Addr) (cap : Nat) (gs : List Gl) (w : World) (hn : n ≤ 1000) (hg : ∀ g ∈ gs, okG g) (hr : RowG w q gs) (hl : gs.length ≤ 1000000) :
    Calls Try.prog 103 #[.int .i64 n, .slice q gs.length cap] w fun e w' => e = .returned (.int .i64 (cnt n gs : Nat)) ∧ Below w.heap.size w w' := by
  go_enter Try.func103, Try.ntmps103
  go_wp2
  go_loopw [5, 9] (fun c i wr => ∃ k : Nat, k ≤ n ∧ i = .int .i64 k ∧ c = .int .i64 (cntTo n gs k 0 : Nat) ∧ Below w.heap.size w wr) (fun _ i _ => n - (intOf i).toNat)
  case atStart => exact ⟨0, Nat.zero_le _, rfl, by rw [cntTo_zero]; rfl, Below.refl _ _⟩
  case round =>
    obtain ⟨k, hk, rfl, rfl, hbel⟩ := hrel
    by_cases hlt : k < n
    · obtain ⟨wo, rfl⟩ : ∃ wo : World, wo = wr := ⟨_, rfl⟩
      go_wp2
      go_loopw [5, 13] (fun c j wr => ∃ l : Nat, l ≤ n ∧ j = .int .i64 l ∧ c = .int .i64 (cntTo n gs k l : Nat) ∧ Below w.heap.size w wr) (fun _ j _ => n - (intOf j).toNat)
      case atStart => exact ⟨0, Nat.zero_le _, rfl, rfl, hbel⟩
      case round =>
        obtain ⟨l, hl', rfl, rfl, hbel'⟩ := hrel
        by_cases hlt' : l < n
        · have hst := cntTo_step n gs k l
          have hbd := cntTo_bd (n := n) (gs := gs) (i := k) (j := l) hn hk hl'
          have hr' := hr.below (Nat.le_refl _) hbel'
          have HP : okP ((k : Int), (l : Int)) := ⟨⟨by omega, by simp; omega⟩, ⟨by omega, by simp; omega⟩⟩
          have HS := Lib.hid hst
          clear hst
          have c1 := agreesAll_any ((k : Int), (l : Int)) q cap gs wr HP hg hr' hl
          have C1 := Lib.hid c1
          clear c1
          go_wp2_with (go_at_call 96; refine (C1.out).mono ?_; rintro e w' ⟨rfl, hb'⟩)
          · have hy : agrAll gs ((k : Int), (l : Int)) = true := by assumption
            go_roundw
            case rel => exact ⟨l + 1, by omega, by go_num, by rw [HS.out, hy]; go_num, hbel'.trans (hb'.mono hbel'.size)⟩
            case measure => simp [intOf]; omega
          · have hy : agrAll gs ((k : Int), (l : Int)) = false := by assumption
            go_roundw
            case rel => exact ⟨l + 1, by omega, by go_num, by rw [HS.out, hy]; go_num, hbel'.trans (hb'.mono hbel'.size)⟩
            case measure => simp [intOf]; omega
        · obtain rfl : l = n := by omega
          go_wp2
          go_roundw
          case rel => exact ⟨k + 1, by omega, by go_num, by rw [cntTo_col], hbel'⟩
          case measure => simp [intOf]; omega
    · obtain rfl : k = n := by omega
      go_wp2
      go_ret
      exact ⟨ret_int (by rw [cntTo_all]), hbel⟩
end Go.Proofs.Ytcalipoknbbaaaa
