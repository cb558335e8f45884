/- Helpers of the law: list, gallery, same, alike. -/
import Derived.Test.YtcalipoknbbaaaaHullW
namespace Go.Proofs.Ytcalipoknbbaaaa
open Go.RowKit

set_option maxHeartbeats 400000 in
theorem list_any (v : Value) (w : World) : Calls Try.prog 73 #[v] w fun e w' => e = .returned v ∧ w' = w := by
  go_enter Try.func73, Try.ntmps73
  go_wp2
  go_ret
  exact ⟨rfl, rfl⟩

set_option maxHeartbeats 400000 in
theorem gallery_any (a b c : Int) (w : World) : Calls Try.prog 75 #[.int .i64 a, .int .i64 b, .int .i64 c] w fun e w' => e = .returned (.agg #[.int .i64 a, .int .i64 b, .int .i64 c]) ∧ Below w.heap.size w w' := by
  go_enter Try.func75, Try.ntmps75
  go_wp2
  refine bodyPost_ret (by simp [results, Try.results75, go_sem]; try rfl) rfl ?_
  exact ⟨rfl, (Below.refl _ _).alloc (Nat.le_refl _) _⟩

/-- lists that begin alike -/
theorem take_succ_eq {α : Type} [DecidableEq α] {xs ys : List α} {k : Nat} (hx : k < xs.length) (hy : k < ys.length) (d : α) (h : xs.take k = ys.take k) (he : xs.getD k d = ys.getD k d) : xs.take (k + 1) = ys.take (k + 1) := by
  rw [List.take_succ_eq_append_getElem hx, List.take_succ_eq_append_getElem hy, h]
  rw [getD_eq xs k d hx, getD_eq ys k d hy] at he
  rw [he]

set_option maxRecDepth 100000 in
set_option maxHeartbeats 400000 in
theorem same_any (q1 q2 : Option Addr) (c1 c2 : Nat) (xs ys : List Int) (w : World) (h1 : RowI w q1 xs) (h2 : RowI w q2 ys) (l1 : xs.length ≤ 1000000) (l2 : ys.length ≤ 1000000) :
    Calls Try.prog 38 #[.slice q1 xs.length c1, .slice q2 ys.length c2] w fun e w' => e = .returned (.bool (xs == ys)) ∧ Below w.heap.size w w' := by
  have H1 := Lib.hid h1
  have H2 := Lib.hid h2
  clear h1 h2
  by_cases hl : xs.length = ys.length
  · have hl' : ((xs.length : Int) != (ys.length : Int)) = false := by simp [hl]
    have hlen := hl
    generalize hn : ys.length = n at *
    have HL := Lib.hid hl
    have HN := Lib.hid hn
    rw [hl] at l1 hl' ⊢
    clear hl hn hlen
    go_enter Try.func38, Try.ntmps38
    go_wp2
    go_loopw [5] (fun i wr => ∃ k : Nat, k ≤ n ∧ i = .int .i64 k ∧ xs.take k = ys.take k ∧ Below w.heap.size w wr) (fun i _ => n - (intOf i).toNat)
    case atStart => exact ⟨0, Nat.zero_le _, rfl, rfl, Below.refl _ _⟩
    case round =>
      obtain ⟨k, hk, rfl, htk, hbel⟩ := hrel
      by_cases hlt : k < n
      · obtain ⟨b1, o1, rfl, hz1, g1⟩ := H1.out.at (show k < xs.length by rw [HL.out]; exact hlt) (Nat.le_refl _) hbel
        obtain ⟨b2, o2, rfl, hz2, g2⟩ := H2.out.at (show k < ys.length by rw [HN.out]; exact hlt) (Nat.le_refl _) hbel
        have hts := take_succ_eq (xs := xs) (ys := ys) (k := k) (by rw [HL.out]; exact hlt) (by rw [HN.out]; exact hlt) 0 htk
        have HTS := Lib.hid hts
        have hne : xs.getD k 0 ≠ ys.getD k 0 → xs ≠ ys := fun h e => h (by rw [e])
        have HNE := Lib.hid hne
        generalize xs.getD k 0 = x at g1 HTS HNE
        generalize ys.getD k 0 = y at g2 HTS HNE
        clear hts hne htk
        by_cases hxy : x = y
        · have hxy' : (x != y) = false := by simp [hxy]
          have HE := Lib.hid hxy
          clear hxy
          go_wp2
          go_quiet (fail)
          go_wp2
          go_roundw
          case rel => exact ⟨k + 1, hlt, by go_num, HTS.out HE.out, below_drewN hbel _⟩
          case measure => simp [intOf]; omega
        · have hxy' : (x != y) = true := by simp [hxy]
          have HE := Lib.hid hxy
          clear hxy
          go_wp2
          go_quiet (fail)
          go_wp2
          go_ret
          exact ⟨ret_bool (beq_eq_false_iff_ne.2 (HNE.out HE.out)).symm, below_drewN hbel _⟩
      · obtain rfl : k = n := by omega
        have he : xs = ys := by
          rw [List.take_of_length_le (by rw [HL.out]; exact Nat.le_refl _), List.take_of_length_le (by rw [HN.out]; exact Nat.le_refl _)] at htk
          exact htk
        have HE := Lib.hid he
        clear htk he
        go_wp2
        go_ret
        exact ⟨ret_bool (by rw [HE.out]; exact (beq_self_eq_true ys).symm), hbel⟩
  · have hl' : ((xs.length : Int) != (ys.length : Int)) = true := by simp; omega
    go_enter Try.func38, Try.ntmps38
    go_wp2
    go_ret
    refine ⟨ret_bool ?_, Below.refl _ _⟩
    symm
    rw [beq_eq_false_iff_ne]
    intro e
    exact hl (by rw [e])
end Go.Proofs.Ytcalipoknbbaaaa
