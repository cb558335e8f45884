/- alike (a helper of the law). -/
import Derived.Test.YtcalipoknbbaaaaLaw1
import Derived.Laws.StructEq
namespace Go.Proofs.Ytcalipoknbbaaaa
open Go.RowKit

theorem under26 : Try.prog.underlying 26 = some (.struct (Try.prog.fieldsOf 26)) := by kernel_rfl
theorem stood26 : Try.prog.stoodInHeld 26 = false := by kernel_rfl
theorem guard26 : Try.prog.eqGuardType Try.prog.depth 26 = false := by kernel_rfl
theorem fields26 : (Try.prog.fieldsOf 26).toList.map (fun f => (f.name == "_", f.type, f.offset)) = [(false, 3, 0), (false, 3, 1)] := by kernel_rfl
theorem under3 : Try.prog.underlying 3 = some (.int .i64) := by kernel_rfl
theorem equal26 (a b c d : Int) (w : World) : (Op.equalIn 10000 26 (.agg #[.int .i64 a, .int .i64 b]) (.agg #[.int .i64 c, .int .i64 d])).run Try.prog w = .ok (a == c && b == d) w := by
  rw [run_equalIn_agg w 9999 26 _ _ under26 stood26]
  have h := fields26
  generalize (Try.prog.fieldsOf 26).toList = l at h
  obtain ⟨f, l1, rfl, hf, h'⟩ := List.map_eq_cons_iff.1 h
  obtain ⟨g, l2, rfl, hg, h''⟩ := List.map_eq_cons_iff.1 h'
  obtain rfl := List.map_eq_nil_iff.1 h''
  clear h h' h''
  simp only [Prod.mk.injEq] at hf hg
  obtain ⟨h1, h2, h3⟩ := hf
  obtain ⟨h4, h5, h6⟩ := hg
  have h1' : f.name ≠ "_" := by simpa using h1
  have h4' : g.name ≠ "_" := by simpa using h4
  simp only [Op.eqFields, h1', h4', h2, h3, h5, h6, ne_eq, not_false_eq_true, if_true]
  cases hac : (a == c) <;> cases hbd : (b == d) <;> simp [go_sem, hac, hbd]
attribute [local go_sem] equal26 guard26

set_option maxRecDepth 100000 in
set_option maxHeartbeats 400000 in
theorem alike_any (q1 q2 : Option Addr) (c1 c2 : Nat) (xs ys : List Pl) (w : World) (h1 : RowP w q1 xs) (h2 : RowP w q2 ys) (l1 : xs.length ≤ 1000000) (l2 : ys.length ≤ 1000000) :
    Calls Try.prog 65 #[.slice q1 xs.length c1, .slice q2 ys.length c2] w fun e w' => e = .returned (.bool (xs == ys)) ∧ Below w.heap.size w w' := by
  have H1 := Lib.hid h1
  have H2 := Lib.hid h2
  clear h1 h2
  by_cases hl : xs.length = ys.length
  · have hl' : ((xs.length : Int) != (ys.length : Int)) = false := by simp [hl]
    have hlen := hl
    generalize hn : ys.length = n at *
    have HL := Lib.hid hl
    have HN := Lib.hid hn
    rw [hl] at l1 hl' ⊢
    clear hl hn hlen
    go_enter Try.func65, Try.ntmps65
    go_wp2
    go_loopw [5] (fun i wr => ∃ k : Nat, k ≤ n ∧ i = .int .i64 k ∧ xs.take k = ys.take k ∧ Below w.heap.size w wr) (fun i _ => n - (intOf i).toNat)
    case atStart => exact ⟨0, Nat.zero_le _, rfl, rfl, Below.refl _ _⟩
    case round =>
      obtain ⟨k, hk, rfl, htk, hbel⟩ := hrel
      by_cases hlt : k < n
      · obtain ⟨b1, o1, rfl, hz1, g1, g1'⟩ := H1.out.at (show k < xs.length by rw [HL.out]; exact hlt) (Nat.le_refl _) hbel
        obtain ⟨b2, o2, rfl, hz2, g2, g2'⟩ := H2.out.at (show k < ys.length by rw [HN.out]; exact hlt) (Nat.le_refl _) hbel
        have hts := take_succ_eq (xs := xs) (ys := ys) (k := k) (by rw [HL.out]; exact hlt) (by rw [HN.out]; exact hlt) (0, 0) htk
        have HTS := Lib.hid hts
        have hne : xs.getD k (0, 0) ≠ ys.getD k (0, 0) → xs ≠ ys := fun h e => h (by rw [e])
        have HNE := Lib.hid hne
        generalize xs.getD k (0, 0) = x at g1 g1' HTS HNE
        generalize ys.getD k (0, 0) = y at g2 g2' HTS HNE
        clear hts hne htk
        by_cases hx1 : x.1 = y.1
        · by_cases hx2 : x.2 = y.2
          · have HE := Lib.hid (show x = y from Prod.ext hx1 hx2)
            go_wp2
            go_quiet (fail)
            go_wp2
            go_roundw
            case rel => exact ⟨k + 1, hlt, by go_num, HTS.out HE.out, below_drewN hbel _⟩
            case measure => simp [intOf]; omega
          · have HE := Lib.hid (show x ≠ y from fun e => hx2 (by rw [e]))
            go_wp2
            go_quiet (fail)
            go_wp2
            go_ret
            exact ⟨ret_bool (beq_eq_false_iff_ne.2 (HNE.out HE.out)).symm, below_drewN hbel _⟩
        · have HE := Lib.hid (show x ≠ y from fun e => hx1 (by rw [e]))
          go_wp2
          go_quiet (fail)
          go_wp2
          go_ret
          exact ⟨ret_bool (beq_eq_false_iff_ne.2 (HNE.out HE.out)).symm, below_drewN hbel _⟩
      · obtain rfl : k = n := by omega
        have he : xs = ys := by
          rw [List.take_of_length_le (by rw [HL.out]; exact Nat.le_refl _), List.take_of_length_le (by rw [HN.out]; exact Nat.le_refl _)] at htk
          exact htk
        have HE := Lib.hid he
        clear htk he
        go_wp2
        go_ret
        exact ⟨ret_bool (by rw [HE.out]; exact (beq_self_eq_true ys).symm), hbel⟩
  · have hl' : ((xs.length : Int) != (ys.length : Int)) = true := by simp; omega
    go_enter Try.func65, Try.ntmps65
    go_wp2
    go_ret
    refine ⟨ret_bool ?_, Below.refl _ _⟩
    symm
    rw [beq_eq_false_iff_ne]
    intro e
    exact hl (by rw [e])
end Go.Proofs.Ytcalipoknbbaaaa
