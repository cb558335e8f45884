/- The corners of points: the first point is one. -/
import Derived.Test.YtcalipoknbbaaaaHull
namespace Go.Proofs.Ytcalipoknbbaaaa
open Go.RowKit

/-- is a point told apart from the others? -/
def cornB (ps : List Pl) (i : Nat) : Bool := sepB (sel false [(i : Int)] ps) [ps.getD i (0, 0)]
/-- the corners among the first k -/
def cornTo (ps : List Pl) (k : Nat) : List Pl := ((List.range k).filter (cornB ps)).map fun i : Nat => ps.getD i (0, 0)
theorem cornTo_zero (ps : List Pl) : cornTo ps 0 = [] := rfl
theorem cornTo_succ (ps : List Pl) (k : Nat) : cornTo ps (k + 1) = cornTo ps k ++ (if cornB ps k = true then [ps.getD k (0, 0)] else []) := by
  unfold cornTo
  rw [List.range_succ, List.filter_append, List.map_append]
  congr 1
  simp only [List.filter_cons, List.filter_nil]
  split <;> rfl
theorem cornTo_le (ps : List Pl) (k : Nat) : (cornTo ps k).length ≤ k := by
  unfold cornTo
  rw [List.length_map]
  refine Nat.le_trans (List.length_filter_le _ _) ?_
  simp

theorem before_trans {p q r : Pl} (h1 : beforeP p q = true) (h2 : beforeP q r = true) : beforeP p r = true := by
  simp only [beforeP, Bool.or_eq_true, Bool.and_eq_true, decide_eq_true_eq, beq_iff_eq] at *
  omega
theorem errPs_sorted : ∀ (ps : List Pl) (o : Option Pl), errPs o ps = 0 → ps.Pairwise (fun p q => beforeP p q = true) ∧ ∀ b, o = some b → ∀ p ∈ ps, beforeP b p = true
  | [], _, _ => ⟨List.Pairwise.nil, by simp⟩
  | p :: r, o, h => by
    rw [errPs_cons] at h
    cases hx : onG 7 p with
    | false => rw [if_pos hx] at h; simp at h
    | true =>
      rw [if_neg (by rw [hx]; simp)] at h
      have key : ∀ c : Bool, (if c = true then (7 : Int) else errPs (some p) r) = 0 → c = false ∧ errPs (some p) r = 0 := by
        intro c hc
        cases c with
        | true => simp at hc
        | false => exact ⟨rfl, by simpa using hc⟩
      obtain ⟨h1, h2⟩ := key _ h
      obtain ⟨i1, i2⟩ := errPs_sorted r (some p) h2
      refine ⟨List.Pairwise.cons (i2 p rfl) i1, ?_⟩
      rintro b rfl q hq
      have hbp : beforeP b p = true := by simpa using h1
      rcases List.mem_cons.1 hq with rfl | hq
      · exact hbp
      · exact before_trans hbp (i2 p rfl q hq)

theorem supC_lt (s : Int × Int) : ∀ (A : List Pl) (c v : Int), c < v → (∀ p ∈ A, s.1 * p.1 + s.2 * p.2 < v) → A.foldl (fun c p => max c (s.1 * p.1 + s.2 * p.2)) c < v
  | [], _, _, h, _ => h
  | p :: A, c, v, h, hA => by
    rw [List.foldl_cons]
    refine supC_lt s A _ v ?_ fun q hq => hA q (by simp [hq])
    have := hA p (by simp)
    omega

theorem sepB_of {A : List Pl} {p : Pl} {s : Int × Int} (hs : s ∈ slopesL 9) (h0 : -9223372036854775808 < s.1 * p.1 + s.2 * p.2) (h : ∀ q ∈ A, s.1 * q.1 + s.2 * q.2 < s.1 * p.1 + s.2 * p.2) : sepB A [p] = true := by
  unfold sepB separateOf
  rw [Option.isSome_map, List.find?_isSome]
  refine ⟨s, hs, ?_⟩
  have := supC_lt s A _ _ h0 h
  simp only [tells, anyAgr, galOf, agr, val, supC]
  simp only [List.any_cons, List.any_nil, Bool.or_false, Bool.not_eq_true']
  exact decide_eq_false (Int.not_le.2 this)

theorem sel_zero_tail (p : Pl) (r : List Pl) : ∀ q ∈ sel false [((0 : Nat) : Int)] (p :: r), q ∈ r := by
  intro q hq
  unfold sel at hq
  rw [List.zipIdx_cons, List.filter_cons] at hq
  rw [if_neg (by simp [hasI])] at hq
  obtain ⟨⟨x, i⟩, hx, rfl⟩ := List.mem_map.1 hq
  have := (List.mem_filter.1 hx).1
  obtain ⟨_, _, h4⟩ := List.mem_zipIdx this
  rw [h4]
  exact List.getElem_mem _

theorem first_corner {p : Pl} {r : List Pl} (h : errP (p :: r) = 0) : cornB (p :: r) 0 = true := by
  have ho := (errP_ok h).2.2.1
  unfold errP at h
  rw [if_neg (by simp)] at h
  split at h
  · simp at h
  have hs := (errPs_sorted _ _ h).1
  rw [List.pairwise_cons] at hs
  have hp := ho p (by simp)
  simp only [onG, decide_eq_true_eq] at hp
  refine sepB_of (s := (-7, -1)) (by decide +kernel) ?_ ?_
  · simp only [List.getD_cons_zero]; omega
  · intro q hq
    have hq' := sel_zero_tail p r q hq
    have hb := hs.1 q hq'
    have hqo := ho q (by simp [hq'])
    simp only [onG, decide_eq_true_eq] at hqo
    simp only [beforeP, Bool.or_eq_true, Bool.and_eq_true, decide_eq_true_eq, beq_iff_eq] at hb
    simp only [List.getD_cons_zero]
    omega

/-- the corners of points begin with the first point; the others are behind it -/
theorem corners_cons {ps : List Pl} (h : errP ps = 0) : ∃ f r, cornTo ps ps.length = f :: r ∧ onG 7 f = true ∧ (∀ p ∈ r, okP p ∧ beforeP f p = true) ∧ r.length ≤ 12 := by
  obtain ⟨o1, o2, o3, o4⟩ := errP_ok h
  cases ps with
  | nil => simp at o1
  | cons p t =>
    have hc := first_corner h
    have hle := cornTo_le (p :: t) (p :: t).length
    refine ⟨p, (((List.range' 1 t.length).filter (cornB (p :: t))).map fun i : Nat => (p :: t).getD i (0, 0)), ?_, o3 p (by simp), ?_, ?_⟩
    · unfold cornTo
      rw [List.length_cons, List.range_eq_range', List.range'_succ, List.filter_cons, if_pos hc, List.map_cons]
      rfl
    · intro q hq
      obtain ⟨i, hi, rfl⟩ := List.mem_map.1 hq
      have hi2 := List.mem_range'.1 (List.mem_filter.1 hi).1
      obtain ⟨j, hj, rfl⟩ := hi2
      have hs : (p :: t).Pairwise (fun p q => beforeP p q = true) := by
        unfold errP at h
        rw [if_neg (by simp)] at h
        split at h
        · simp at h
        exact (errPs_sorted _ _ h).1
      rw [List.pairwise_cons] at hs
      have hm : (p :: t).getD (1 + 1 * j) (0, 0) ∈ t := by
        rw [show 1 + 1 * j = j + 1 by omega, List.getD_cons_succ]
        exact getD_mem t j (0, 0) hj
      exact ⟨o4 _ (List.mem_cons_of_mem _ hm), hs.1 _ hm⟩
    · rw [List.length_map]
      refine Nat.le_trans (List.length_filter_le _ _) ?_
      simp at o2 ⊢
      omega
end Go.Proofs.Ytcalipoknbbaaaa
