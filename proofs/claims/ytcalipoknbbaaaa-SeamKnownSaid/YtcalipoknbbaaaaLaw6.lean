/- works (the chapter's examples): what each call answers, and the rows that lie in memory meanwhile. -/
import Derived.Test.YtcalipoknbbaaaaLaw5
namespace Go.Proofs.Ytcalipoknbbaaaa
open Go.RowKit

theorem under28 : Try.prog.underlying 28 = some (.struct (Try.prog.fieldsOf 28)) := by kernel_rfl
theorem stood28 : Try.prog.stoodInHeld 28 = false := by kernel_rfl
theorem guard28 : Try.prog.eqGuardType Try.prog.depth 28 = false := by kernel_rfl
theorem fields28 : (Try.prog.fieldsOf 28).toList.map (fun f => (f.name == "_", f.type, f.offset)) = [(false, 3, 0), (false, 3, 1), (false, 3, 2)] := by kernel_rfl
theorem equal28 (a b a2 c d c2 : Int) (w : World) : (Op.equalIn 10000 28 (.agg #[.int .i64 a, .int .i64 b, .int .i64 a2]) (.agg #[.int .i64 c, .int .i64 d, .int .i64 c2])).run Try.prog w = .ok (a == c && (b == d && a2 == c2)) w := by
  rw [run_equalIn_agg w 9999 28 _ _ under28 stood28]
  have h := fields28
  generalize (Try.prog.fieldsOf 28).toList = l at h
  obtain ⟨f, l1, rfl, hf, h'⟩ := List.map_eq_cons_iff.1 h
  obtain ⟨g, l2, rfl, hg, h''⟩ := List.map_eq_cons_iff.1 h'
  obtain ⟨k, l3, rfl, hk, h3⟩ := List.map_eq_cons_iff.1 h''
  obtain rfl := List.map_eq_nil_iff.1 h3
  clear h h' h'' h3
  simp only [Prod.mk.injEq] at hf hg hk
  obtain ⟨h1, h2, h3⟩ := hf
  obtain ⟨h4, h5, h6⟩ := hg
  obtain ⟨h7, h8, h9⟩ := hk
  have h1' : f.name ≠ "_" := by simpa using h1
  have h4' : g.name ≠ "_" := by simpa using h4
  have h7' : k.name ≠ "_" := by simpa using h7
  simp only [Op.eqFields, h1', h4', h7', h2, h3, h5, h6, h8, h9, ne_eq, not_false_eq_true, if_true]
  cases hac : (a == c) <;> cases hbd : (b == d) <;> cases hgd : (a2 == c2) <;> simp [go_sem, hac, hbd, hgd]

/-! the chapter's examples, reckoned -/
theorem ev_region : regionOf 4 galsH = ([(2, 1)], 0) := by decide +kernel
theorem ev_known : knownR 4 galsH (1, 0, 1) = (-1, 0) := by decide +kernel
theorem ev_loss : lossR 4 [] (1, 1, 3) = (6, 0) := by decide +kernel
theorem ev_contra : contradictOf 3 galsK = ([0, 1, 2], 0) := by decide +kernel
theorem ev_wrong : wrongOf 3 galsK = ([0], 0) := by decide +kernel
theorem ev_errP : errP ptsP = 0 := by decide +kernel
theorem ev_within : withinOf ptsP (2, 1) = ([0, 1, 3], 0) := by decide +kernel
theorem ev_apart : apartOf ptsP (5, 0) = ((1, -9, 4), 0) := by decide +kernel
theorem ev_divide : divideOf [(0, 0), (0, 4), (4, 0), (4, 4)] = ([0, 3], 0) := by decide +kernel
theorem ev_depth : depthR ptsP (2, 2) = (2, 0) := by decide +kernel
theorem ev_centre : centreOf ptsP = ((1, 1), 2, 0) := by decide +kernel
theorem ev_ask : askOf 4 [] [(1, 0, 0), (1, 0, 1)] = (1, 0) := by decide +kernel
theorem ev_contra2 : contradictOf 4 galsH = ([], 13) := by decide +kernel
theorem ev_within2 : withinOf ptsP (5, 0) = ([], 12) := by decide +kernel
theorem ev_proves : provesOf 3 galsK [0, 1, 2] = 0 := by decide +kernel
theorem ev_proves2 : provesOf 3 galsK [0, 1] = 14 := by decide +kernel
theorem ev_corn : cornTo ptsP 5 = [(0, 0), (0, 4), (4, 0), (4, 4)] := by decide +kernel

def ptsHull : List Pl := [(0, 0), (4, 0), (4, 4), (0, 4)]
theorem three_of {α : Type} {l : List α} {a b c : α} (h : l.Perm [a, b, c]) : ∃ x y z, l = [x, y, z] ∧ (x = a ∨ x = b ∨ x = c) ∧ (y = a ∨ y = b ∨ y = c) ∧ (z = a ∨ z = b ∨ z = c) := by
  have hl := h.length_eq
  match l, hl with
  | [x, y, z], _ =>
    refine ⟨x, y, z, rfl, ?_, ?_, ?_⟩
    · simpa using h.subset (show x ∈ [x, y, z] by simp)
    · simpa using h.subset (show y ∈ [x, y, z] by simp)
    · simpa using h.subset (show z ∈ [x, y, z] by simp)
theorem ev_hull {h : List Pl} (hh : IsHull ptsP h) : h = ptsHull := by
  obtain ⟨f, r, l, h1, h2, h3, rfl⟩ := hh
  rw [show ptsP.length = 5 from rfl, ev_corn] at h1
  injection h1 with h1 h4
  subst h1
  subst h4
  obtain ⟨x, y, z, rfl, hx, hy, hz⟩ := three_of h2
  simp only [TurnSorted, cross, List.pairwise_cons, List.mem_cons] at h3
  rcases hx with rfl | rfl | rfl <;> rcases hy with rfl | rfl | rfl <;> rcases hz with rfl | rfl | rfl <;> first | rfl | (exfalso; revert h2; decide) | (exfalso; revert h3; simp)
end Go.Proofs.Ytcalipoknbbaaaa
