/- The iterators of package seam: slopes, and slices.Backward at a list of ints. -/
import Derived.Test.YtcalipoknbbaaaaSplit
import Derived.RangeFuncNested
import Derived.RangeFuncBound
import Derived.RangeFuncCalls
import Derived.RangeFuncLeaves
import Derived.RangeFuncBox
import Derived.Shelf.Abstract
import Derived.Shelf.RegionOpen
import Derived.OwnWalkIn
import Derived.TacticsInMore
import Derived.LoopNIn
import Derived.LoopIn
namespace Go.Proofs.Ytcalipoknbbaaaa
open Go.RowKit Go.Shelf

attribute [local go_sem] Oper.semAt_some

/-- some blocks are as they were -/
def KeepB (l : List Nat) (W W' : World) : Prop := ∀ k ∈ l, W'.heap[k]? = W.heap[k]?
theorem keepB_t {l : List Nat} {A B C : World} (h : KeepB l A B) (k : KeepB l B C) : KeepB l A C := fun x hx => (k x hx).trans (h x hx)
theorem KeepB.cell {l : List Nat} {W W' : World} (h : KeepB l W W') {B o : Nat} (hB : B ∈ l) : W'.cell? ⟨B, o, none⟩ = W.cell? ⟨B, o, none⟩ := World.cell?_of_block (w := W) (h B hB)
theorem keepB_b {l : List Nat} {w : World} (hl : ∀ k ∈ l, k < w.heap.size) : ∀ (W : World) (r : Nat) (o o' : Obj), w.heap.size ≤ r → W.heap[r]? = some o → o.isCells = false → o.isWalk = false → KeepB l W (W.putObj r o') :=
  fun W r o o' hr _ _ _ k hk => World.putObj_heap_other (by have := hl k hk; omega)
theorem keepB_below {l : List Nat} {B : Nat} {W W' : World} (h : Below B W W') (hl : ∀ k ∈ l, k < B) : KeepB l W W' := fun k hk => h.block k (hl k hk)

/-- the slopes with a, and the first b from -m on; not both 0 -/
def rowS (m : Nat) (a : Int) (j : Nat) : List (Int × Int) := ((List.range j).map fun k : Nat => (a, -(m : Int) + k)).filter fun p => p.1 != 0 || p.2 != 0
def colS (m i : Nat) : List (Int × Int) := (List.range i).flatMap fun k : Nat => rowS m (-(m : Int) + k) (2 * m + 1)
def slopesL (m : Nat) : List (Int × Int) := colS m (2 * m + 1)
def slopesTo (m i j : Nat) : List (Int × Int) := colS m i ++ rowS m (-(m : Int) + i) j

theorem rowS_succ (m : Nat) (a : Int) (j : Nat) : rowS m a (j + 1) = rowS m a j ++ (if a != 0 || (-(m : Int) + j) != 0 then [(a, -(m : Int) + j)] else []) := by
  simp only [rowS, List.range_succ, List.map_append, List.filter_append, List.map_cons, List.map_nil, List.filter_cons, List.filter_nil]
theorem colS_succ (m i : Nat) : colS m (i + 1) = colS m i ++ rowS m (-(m : Int) + i) (2 * m + 1) := by simp [colS, List.range_succ]
theorem slopesTo_zero (m : Nat) : slopesTo m 0 0 = [] := by simp [slopesTo, colS, rowS]
theorem slopesTo_col (m i : Nat) : slopesTo m i (2 * m + 1) = slopesTo m (i + 1) 0 := by simp [slopesTo, colS_succ, rowS]
theorem slopesTo_end (m : Nat) : slopesTo m (2 * m + 1) 0 = slopesL m := by simp [slopesTo, slopesL, rowS]
theorem colS_prefix (m i : Nat) : ∀ d, colS m i <+: colS m (i + d)
  | 0 => List.prefix_refl _
  | d + 1 => (colS_prefix m i d).trans (by rw [← Nat.add_assoc, colS_succ]; exact List.prefix_append _ _)
theorem rowS_prefix (m : Nat) (a : Int) (j : Nat) : ∀ d, rowS m a j <+: rowS m a (j + d)
  | 0 => List.prefix_refl _
  | d + 1 => (rowS_prefix m a j d).trans (by rw [← Nat.add_assoc, rowS_succ]; exact List.prefix_append _ _)
theorem slopesTo_prefix {m i j : Nat} (hi : i < 2 * m + 1) (hj : j ≤ 2 * m + 1) : slopesTo m i j <+: slopesL m := by
  have h1 : slopesTo m i j <+: colS m (i + 1) := by
    rw [colS_succ]
    exact (List.prefix_append_right_inj _).2 (by have := rowS_prefix m (-(m : Int) + i) j (2 * m + 1 - j); rwa [show j + (2 * m + 1 - j) = 2 * m + 1 from by omega] at this)
  have h2 := colS_prefix m (i + 1) (2 * m + 1 - (i + 1))
  rw [show i + 1 + (2 * m + 1 - (i + 1)) = 2 * m + 1 from by omega] at h2
  exact h1.trans h2
theorem slopesTo_yes {m i j : Nat} (h : ¬(-(m : Int) + i = 0 ∧ -(m : Int) + j = 0)) : slopesTo m i (j + 1) = slopesTo m i j ++ [(-(m : Int) + i, -(m : Int) + j)] := by
  rw [slopesTo, rowS_succ, if_pos (by simp; omega), slopesTo, List.append_assoc]
theorem slopesTo_no {m i j : Nat} (h : -(m : Int) + i = 0 ∧ -(m : Int) + j = 0) : slopesTo m i (j + 1) = slopesTo m i j := by
  rw [slopesTo, rowS_succ, if_neg (by simp; omega), slopesTo, List.append_nil]
theorem slopesTo_lt {m i j : Nat} (hi : i < 2 * m + 1) (hj : j < 2 * m + 1) (h : ¬(-(m : Int) + i = 0 ∧ -(m : Int) + j = 0)) : (slopesTo m i j).length < (slopesL m).length := by
  have := (slopesTo_prefix (m := m) (i := i) (j := j + 1) hi hj).length_le
  rw [slopesTo_yes h, List.length_append] at this
  simp at this
  omega

set_option maxRecDepth 100000 in
set_option maxHeartbeats 4000000 in
theorem slopes1_in (F : Fence) (n : Nat) (h6 : F.fn 166) (hro : F.round = none) (hn : 1 ≤ n) (m l Bs : Nat) (hm : m ≤ 100) (J Jx : List (Int × Int) → World → Prop)
    (hY : ∀ (pre : List (Int × Int)) (x : Int × Int) (W : World), J pre W → pre.length < (slopesL m).length → -(m : Int) ≤ x.1 ∧ x.1 ≤ (m : Int) ∧ -(m : Int) ≤ x.2 ∧ x.2 ≤ (m : Int) → YieldAt F (n - 1) Try.prog l #[.int .i64 x.1, .int .i64 x.2] W fun e W' =>
      (e = .returned (.bool true) ∧ J (pre ++ [x]) W' ∧ KeepB [Bs] W W') ∨ (e = .returned (.bool false) ∧ Jx (pre ++ [x]) W'))
    (W : World) (hBs : W.cell? ⟨Bs, 0, none⟩ = some (.int .i64 m)) (h0 : J [] W) :
    CallsIn F n Try.prog 166 #[.func (.yield l) #[] #[], .pointer (some ⟨Bs, 0, none⟩)] W fun e W' => (∃ v, e = .returned v) ∧
      ((∃ ys, ys = slopesL m ∧ J ys W') ∨ (∃ pre, pre <+: slopesL m ∧ Jx pre W')) := by
  refine callsIn_of_wp Try.func166 rfl h6 ?_ hro
  simp only [Try.ntmps166, List.size_toArray, List.length_cons, List.length_nil, Nat.reduceAdd, Nat.reduceSub, Array.replicate_succ, Array.replicate_zero, List.push_toArray, List.append_toArray, List.nil_append, List.cons_append]
  gi_wp2
  gi_loopw [3] (fun p wr => ∃ i : Nat, i ≤ 2 * m + 1 ∧ p = .int .i64 (-(m : Int) + i) ∧ J (slopesTo m i 0) wr ∧ wr.cell? ⟨Bs, 0, none⟩ = some (.int .i64 m)) (fun p _ => (m + 1 - intOf p).toNat)
  case atStart => exact ⟨0, Nat.zero_le _, by go_num, by rw [slopesTo_zero]; exact h0, hBs⟩
  case round =>
    obtain ⟨i, hi, rfl, hJ, hc⟩ := hrel
    by_cases hlt : i < 2 * m + 1
    · obtain ⟨wo, rfl⟩ : ∃ wo : World, wo = wr := ⟨_, rfl⟩
      obtain ⟨a, ea⟩ : ∃ a : Int, -(m : Int) + i = a := ⟨_, rfl⟩
      rw [ea]
      have ba : -100 ≤ a ∧ a ≤ 100 := by omega
      have la : a ≤ m := by omega
      have la' : -(m : Int) ≤ a := by omega
      have EA := Lib.hid ea
      clear ea
      gi_wp2
      gi_loopw [4] (fun p wr => ∃ j : Nat, j ≤ 2 * m + 1 ∧ p = .int .i64 (-(m : Int) + j) ∧ J (slopesTo m i j) wr ∧ wr.cell? ⟨Bs, 0, none⟩ = some (.int .i64 m)) (fun p _ => (m + 1 - intOf p).toNat)
      case atStart => exact ⟨0, Nat.zero_le _, by go_num, hJ, hc⟩
      case round =>
        obtain ⟨j, hj, rfl, hJ', hc'⟩ := hrel
        by_cases hlt' : j < 2 * m + 1
        · have hup := slopesTo_yes (m := m) (i := i) (j := j)
          have hno := slopesTo_no (m := m) (i := i) (j := j)
          have hln := slopesTo_lt (m := m) (i := i) (j := j) hlt hlt'
          have hpr := slopesTo_prefix (m := m) (i := i) (j := j + 1) hlt hlt'
          obtain ⟨b, eb⟩ : ∃ b : Int, -(m : Int) + j = b := ⟨_, rfl⟩
          rw [EA.out, eb] at hup hno hln
          have bb : -100 ≤ b ∧ b ≤ 100 := by omega
          have lb : b ≤ m := by omega
          have lb' : -(m : Int) ≤ b := by omega
          rw [eb]
          have EB := Lib.hid eb
          have HU := Lib.hid hup
          have HN := Lib.hid hno
          have HP := Lib.hid hpr
          clear eb hup hno hpr
          by_cases hz : a = 0 ∧ b = 0
          · have ha' : (a != 0) = false := by simpa using hz.1
            have hb' : (b != 0) = false := by simpa using hz.2
            have HZ := Lib.hid hz
            clear hz hln
            gi_wp2
            refine ⟨fun _ h => (by cases h), ?_⟩
            gi_wp2
            go_roundw
            case rel => exact ⟨j + 1, hlt', by rw [← EB.out]; go_num, by rw [HN.out HZ.out]; exact hJ', hc'⟩
            case measure => simp [intOf]; omega
          · by_cases hz1 : a = 0
            · have ha' : (a != 0) = false := by simpa using hz1
              have hb' : (b != 0) = true := by simp; omega
              have HZ := Lib.hid hz
              obtain ⟨fn, tmps, assign, body, hy, hR⟩ := hY _ (a, b) wr hJ' (hln hz) ⟨la', la, lb', lb⟩
              dsimp only at hy
              clear hz hz1 hln
              gi_wp2
              refine hR.mono ?_
              rintro e W3 (⟨rfl, hJ3, hk3⟩ | ⟨rfl, hJx3⟩)
              · have hc3 := (hk3.cell (o := 0) (by simp)).trans hc'
                gi_wp2
                go_roundw
                case rel => exact ⟨j + 1, hlt', by rw [← EB.out]; go_num, by rw [HU.out HZ.out]; exact hJ3, hc3⟩
                case measure => simp [intOf]; omega
              · gi_wp2
                refine bodyPost_ret (results_none rfl _ _ _) rfl ?_
                exact ⟨⟨_, rfl⟩, .inr ⟨_, by rw [← HU.out HZ.out]; exact HP.out, hJx3⟩⟩
            · have ha' : (a != 0) = true := by simpa using hz1
              have HZ := Lib.hid hz
              obtain ⟨fn, tmps, assign, body, hy, hR⟩ := hY _ (a, b) wr hJ' (hln hz) ⟨la', la, lb', lb⟩
              dsimp only at hy
              clear hz hz1 hln
              gi_wp2
              refine hR.mono ?_
              rintro e W3 (⟨rfl, hJ3, hk3⟩ | ⟨rfl, hJx3⟩)
              · have hc3 := (hk3.cell (o := 0) (by simp)).trans hc'
                gi_wp2
                go_roundw
                case rel => exact ⟨j + 1, hlt', by rw [← EB.out]; go_num, by rw [HU.out HZ.out]; exact hJ3, hc3⟩
                case measure => simp [intOf]; omega
              · gi_wp2
                refine bodyPost_ret (results_none rfl _ _ _) rfl ?_
                exact ⟨⟨_, rfl⟩, .inr ⟨_, by rw [← HU.out HZ.out]; exact HP.out, hJx3⟩⟩
        · obtain rfl : j = 2 * m + 1 := by omega
          rw [slopesTo_col] at hJ'
          gi_wp2
          go_roundw
          case rel => exact ⟨i + 1, by omega, by rw [← EA.out]; go_num, hJ', hc'⟩
          case measure => simp [intOf]; omega
    · obtain rfl : i = 2 * m + 1 := by omega
      rw [slopesTo_end] at hJ
      gi_wp2
      go_end0
      exact ⟨⟨_, rfl⟩, .inl ⟨_, rfl, hJ⟩⟩

/-- slopes(most): the number is boxed; the iterator has captured the box -/
theorem slopes_in (F : Fence) (n : Nat) (h5 : F.fn 146) (hro : F.round = none) (m : Int) (w : World) :
    CallsIn F n Try.prog 146 #[.int .i64 m] w fun e w' => e = .returned (.func (.func 166) #[] #[.pointer (some ⟨w.heap.size, 0, none⟩)]) ∧ w' = w.alloc (.cells #[.int .i64 m] 3) := by
  refine callsIn_of_wp Try.func146 rfl h5 ?_ hro
  simp only [Try.ntmps146, List.size_toArray, List.length_cons, List.length_nil, Nat.reduceAdd, Nat.reduceSub, Array.replicate_succ, Array.replicate_zero, List.push_toArray, List.append_toArray, List.nil_append, List.cons_append]
  gi_wp2
  go_ret
  exact ⟨rfl, rfl⟩

/-- a slope that is not steep: what a round is handed -/
abbrev Sl := { s : Int × Int // small 12 s.1 ∧ small 12 s.2 }

theorem slopes_stops (F : Fence) (n : Nat) (h6 : F.fn 166) (hro : F.round = none) (hn : 1 ≤ n) (m Bs : Nat) (hm : m ≤ 12) (w : World) (hBs : Bs < w.heap.size) (hc : w.cell? ⟨Bs, 0, none⟩ = some (.int .i64 m)) :
    SeqStopsK F n Try.prog 166 #[.pointer (some ⟨Bs, 0, none⟩)] (fun x : Sl => #[Value.int .i64 x.1.1, Value.int .i64 x.1.2]) (KeepB [Bs]) (fun ys => ys.map (·.1) = slopesL m) (fun pre => pre.map (·.1) <+: slopesL m) (slopesL m).length w :=
  fun l J Jx W hW _ _ hY h0 => by
    have hc' := (hW.cell (p := ⟨Bs, 0, none⟩) hBs).trans hc
    refine (slopes1_in F n h6 hro hn m l Bs (by omega) (fun pre W => ∃ pre' : List Sl, pre'.map (·.1) = pre ∧ J pre' W) (fun pre W => ∃ pre' : List Sl, pre'.map (·.1) = pre ∧ Jx pre' W) ?_ W hc' ⟨[], rfl, h0⟩).mono ?_
    · rintro pre x W1 ⟨pre', rfl, hJ⟩ hlen ⟨x1, x2, x3, x4⟩
      obtain ⟨fn, tmps, assign, body, hy, hR⟩ := hY pre' ⟨x, ⟨by omega, by omega⟩, ⟨by omega, by omega⟩⟩ W1 hJ (by simpa using hlen)
      refine ⟨fn, tmps, assign, body, hy, hR.mono ?_⟩
      rintro e W' (⟨rfl, hJ', hk⟩ | ⟨rfl, hJx⟩)
      · exact .inl ⟨rfl, ⟨_, by simp, hJ'⟩, hk⟩
      · exact .inr ⟨rfl, _, by simp, hJx⟩
    · rintro e W' ⟨he, ⟨ys, rfl, ys', h1, h2⟩ | ⟨pre, hp, pre', rfl, h2⟩⟩
      · exact ⟨he, .inl ⟨ys', h1, h2⟩⟩
      · exact ⟨he, .inr ⟨pre', hp, h2⟩⟩
end Go.Proofs.Ytcalipoknbbaaaa
