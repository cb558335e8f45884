/- The walk of depth (package seam). -/
import Derived.Test.YtcalipoknbbaaaaSep
namespace Go.Proofs.Ytcalipoknbbaaaa
open Go.RowKit Go.Shelf

attribute [local go_sem] Oper.semAt_some

/-- the gallery of a slope whose line goes through a place -/
def galAt (s : Int × Int) (p : Pl) : Gl := (s.1, s.2, s.1 * p.1 + s.2 * p.2)
/-- how many of some points agree with it -/
def cntAgr (g : Gl) (ps : List Pl) : Nat := ps.countP fun q => agr g q
def depthTo (ps : List Pl) (p : Pl) (l : List (Int × Int)) : Nat := l.foldl (fun n s => min n (cntAgr (galAt s p) ps)) ps.length
def depthOf (ps : List Pl) (p : Pl) : Nat := depthTo ps p (slopesL 12)

theorem depthTo_snoc (ps : List Pl) (p : Pl) (l : List (Int × Int)) (s : Int × Int) : depthTo ps p (l ++ [s]) = min (depthTo ps p l) (cntAgr (galAt s p) ps) := by simp [depthTo]
theorem cntAgr_succ (g : Gl) (ps : List Pl) (k : Nat) (h : k < ps.length) (d : Pl) : cntAgr g (ps.take (k + 1)) = cntAgr g (ps.take k) + (if agr g (ps.getD k d) then 1 else 0) := by
  rw [getD_eq ps k d h, List.take_succ_eq_append_getElem h]
  simp only [cntAgr, List.countP_append, List.countP_singleton]
theorem cntAgr_le (g : Gl) (ps : List Pl) (k : Nat) : cntAgr g (ps.take k) ≤ k := Nat.le_trans List.countP_le_length (List.length_take_le _ _)
theorem depthTo_le (ps : List Pl) (p : Pl) (l : List (Int × Int)) : depthTo ps p l ≤ ps.length := by
  unfold depthTo
  suffices h : ∀ n, l.foldl (fun n s => min n (cntAgr (galAt s p) ps)) n ≤ n from h _
  induction l with
  | nil => intro n; exact Nat.le_refl _
  | cons s l ih => intro n; exact Nat.le_trans (ih _) (Nat.min_le_left _ _)

theorem keepB_set {l : List Nat} {W W' : World} (h : KeepB l W W') {a : Addr} {v : Value} (ha : ∀ k ∈ l, k ≠ a.block) : KeepB l W (W'.setCell a v) :=
  fun k hk => (heap_setCell_other W' a k v (ha k hk)).trans (h k hk)

/-- what the walk of depth owns: the list's box, the place's, and the number's -/
structure DepOwn (W : World) (B : Nat) (v1 : Value) (p : Pl) (n : Nat) : Prop where
  b1 : W.heap[B]? = some (.cells #[v1] 39 (0, 0))
  b2 : W.heap[B + 1]? = some (.cells #[.int .i64 p.1, .int .i64 p.2] 26 (0, 0))
  b3 : W.heap[B + 1 + 1]? = some (.cells #[.int .i64 n] 3 (0, 0))
  bx : W.heap[B + 1 + 1 + 1]? = some (.cells #[.int .i64 12] 3 (0, 0))

theorem DepOwn.kept {W W' : World} {B : Nat} {v1 : Value} {p : Pl} {n : Nat} {row : Option Nat} (h : DepOwn W B v1 p n) (hg : W.grownBy W' row) (hr : ∀ r, row = some r → ∃ o : Obj, W.heap[r]? = some o ∧ o.isCells = false) : DepOwn W' B v1 p n :=
  ⟨(grownBy_keeps_cells hg hr h.b1 rfl).trans h.b1, (grownBy_keeps_cells hg hr h.b2 rfl).trans h.b2, (grownBy_keeps_cells hg hr h.b3 rfl).trans h.b3, (grownBy_keeps_cells hg hr h.bx rfl).trans h.bx⟩
theorem DepOwn.below {W W' : World} {B : Nat} {v1 : Value} {p : Pl} {n : Nat} (h : DepOwn W B v1 p n) {N : Nat} (hN : W.heap.size ≤ N) (hb : Below N W W') : DepOwn W' B v1 p n :=
  have lt := fun {k : Nat} {o : Obj} (e : W.heap[k]? = some o) => Nat.lt_of_lt_of_le (Array.getElem?_eq_some_iff.1 e).1 hN
  ⟨(hb.block _ (lt h.b1)).trans h.b1, (hb.block _ (lt h.b2)).trans h.b2, (hb.block _ (lt h.b3)).trans h.b3, (hb.block _ (lt h.bx)).trans h.bx⟩
theorem DepOwn.cells {W : World} {B : Nat} {v1 : Value} {p : Pl} {n : Nat} (h : DepOwn W B v1 p n) :
    W.cell? ⟨B, 0, none⟩ = some v1 ∧ W.cell? ⟨B + 1, 0, none⟩ = some (.int .i64 p.1) ∧ W.cell? ⟨B + 1, 1, none⟩ = some (.int .i64 p.2) ∧ W.cell? ⟨B + 1 + 1, 0, none⟩ = some (.int .i64 n) ∧ W.frozen? ⟨B + 1 + 1, 0, none⟩ = false :=
  ⟨by rw [cell_of_row W B 0 _ _ _ h.b1]; rfl, by rw [cell_of_row W (B + 1) 0 _ _ _ h.b2]; rfl, by rw [cell_of_row W (B + 1) 1 _ _ _ h.b2]; rfl, by rw [cell_of_row W (B + 1 + 1) 0 _ _ _ h.b3]; rfl, frozen_of_row W (B + 1 + 1) 0 _ _ h.b3⟩
theorem DepOwn.set {W : World} {B : Nat} {v1 : Value} {p : Pl} {n : Nat} (h : DepOwn W B v1 p n) (n' : Nat) : DepOwn (W.setCell ⟨B + 1 + 1, 0, none⟩ (.int .i64 n')) B v1 p n' := by
  obtain ⟨h1, h2, h3, h4⟩ := h
  have o := fun (W : World) (k c : Nat) (u : Value) (j : Nat) (hj : j ≠ k) => heap_setCell_other W ⟨k, c, none⟩ j u hj
  refine ⟨?_, ?_, ?_, ?_⟩
  · rw [o _ _ _ _ _ (by omega)]; exact h1
  · rw [o _ _ _ _ _ (by omega)]; exact h2
  · exact heap_setCell_same _ _ 0 _ _ _ h3
  · rw [o _ _ _ _ _ (by omega)]; exact h4

set_option maxRecDepth 100000 in
set_option maxHeartbeats 4000000 in
theorem depth_any (q1 : Option Addr) (c1 : Nat) (A : List Pl) (pt : Pl) (w : World) (hA : ∀ p ∈ A, okP p) (hpt : okP pt) (hr1 : RowP w q1 A) (hl1 : A.length ≤ 1000000) :
    Calls Try.prog 131 #[.slice q1 A.length c1, .agg #[.int .i64 pt.1, .int .i64 pt.2]] w fun e w' => e = .returned (.int .i64 (depthOf A pt : Nat)) ∧ Below w.heap.size w w' := by
  refine (callsIn_wide (n := 5)).1 ?_
  refine callsIn_of_wp_marks Try.func131 rfl trivial ?_ rfl
  simp only [Try.ntmps131, List.size_toArray, List.length_cons, List.length_nil, Nat.reduceAdd, Nat.reduceSub, Array.replicate_succ, Array.replicate_zero, List.push_toArray, List.append_toArray, List.nil_append, List.cons_append]
  gi_wp2_with (refine ⟨trivial, ?_⟩; gi_at_call 146; refine (slopes_in Fence.wide 4 trivial rfl _ _).mono ?_; rintro e w' ⟨rfl, rfl⟩)
  obtain ⟨W0, hW0⟩ : ∃ W0, ((((w.alloc (Obj.cells #[Value.slice q1 A.length c1] 39)).alloc (Obj.cells #[Value.int .i64 pt.1, .int .i64 pt.2] 26)).alloc
              (Obj.cells #[Value.int IntKind.i64 A.length] 3)).alloc (Obj.cells #[Value.int IntKind.i64 12] 3)) = W0 := ⟨_, rfl⟩
  have hsz : W0.heap.size = w.heap.size + 1 + 1 + 1 + 1 := by rw [← hW0]; simp
  have hbel : Below w.heap.size w W0 := by
    rw [← hW0]
    exact ((((Below.refl _ _).alloc (Nat.le_refl _) _).alloc (by simp) _).alloc (by simp; omega) _).alloc (by simp; omega) _
  have hown : DepOwn W0 w.heap.size (.slice q1 A.length c1) pt A.length := by
    rw [← hW0]
    exact ⟨(by rw [heap_alloc_get, if_neg (by simp only [World.size_alloc]; omega)]; rw [heap_alloc_get, if_neg (by simp only [World.size_alloc]; omega)]; rw [heap_alloc_get, if_neg (by simp only [World.size_alloc]; omega)]; rw [heap_alloc_get, if_pos (by simp)]), (by rw [heap_alloc_get, if_neg (by simp only [World.size_alloc]; omega)]; rw [heap_alloc_get, if_neg (by simp only [World.size_alloc]; omega)]; rw [heap_alloc_get, if_pos (by simp)]), (by rw [heap_alloc_get, if_neg (by simp only [World.size_alloc]; omega)]; rw [heap_alloc_get, if_pos (by simp)]), (by rw [heap_alloc_get, if_pos (by simp)])⟩
  have hbox : W0.cell? ⟨w.heap.size + 1 + 1 + 1, 0, none⟩ = some (.int .i64 (12 : Nat)) := by rw [cell_of_row _ _ 0 _ _ _ hown.bx]; rfl
  rw [hW0]
  have HSZ := Lib.hid hsz
  clear hW0 hsz
  refine wpIn_rangeFunc_ownG rfl (by decide) (gf := 166) (lb := #[.pointer (some ⟨w.heap.size + 1 + 1 + 1, 0, none⟩)]) rfl trivial (enters_of Try.func166 (by kernel_rfl) rfl)
    (slopes_stops Fence.wide 4 trivial rfl (by decide) 12 (w.heap.size + 1 + 1 + 1) (by decide) W0 (by rw [HSZ.out]; omega) hbox) (fun h k => keepB_t h k) (keepB_b (by rw [HSZ.out]; simp)) (Below.refl _ _) (fun _ => rfl)
    (fun (pre : List Sl) W => DepOwn W w.heap.size (.slice q1 A.length c1) pt (depthTo A pt (pre.map (·.1))) ∧ Below w.heap.size w W)
    (fun _ (_ : List Sl) _ => False)
    (OwnFrom.and (Own.from (fun s A B row hs hg hr => hs.kept hg hr) _) (ownFrom_below (Nat.le_refl _) (by rw [HSZ.out]; omega)))
    (fun _ _ _ _ _ hs _ _ => hs)
    ⟨hown, hbel⟩
    (fun x => { tmps := #[.slice q1 A.length c1, .agg #[.int .i64 pt.1, .int .i64 pt.2], .pointer (some ⟨w.heap.size, 0, none⟩), .pointer (some ⟨w.heap.size + 1, 0, none⟩), .int .i64 0, .pointer (some ⟨w.heap.size + 1 + 1, 0, none⟩), .int .i64 x.1.1, .int .i64 x.1.2, undef, undef, undef, undef, .slice q1 A.length c1, .int .i64 A.length, .func (.func 166) #[] #[.pointer (some ⟨w.heap.size + 1 + 1 + 1, 0, none⟩)], .int .i64 x.1.1, .int .i64 x.1.2, undef, undef, undef, undef, undef, undef, undef, undef, undef, undef, undef, undef, undef, undef, undef, undef, undef, undef, undef, undef, undef, undef, undef, undef, undef, undef, undef, undef], defers := [] }) ?assign ?body ?done ?stop
  case assign =>
    intro l x W K hK
    gi_wp2
    exact hK
  case body =>
    rintro l pre ⟨⟨a, b⟩, hsa, hsb⟩ W ⟨hown, hbel⟩ hlen
    obtain ⟨hc1, hc2, hc3, hc4, hf4⟩ := hown.cells
    obtain ⟨hsa1, hsa2⟩ := hsa
    obtain ⟨hsb1, hsb2⟩ := hsb
    dsimp only at *
    have hA' := hr1.below (Nat.le_refl _) hbel
    have hz3 : w.heap.size + 1 + 1 + 1 < W.heap.size := (Array.getElem?_eq_some_iff.1 hown.bx).1
    have hz0 : w.heap.size < W.heap.size := by omega
    have hz1 : w.heap.size + 1 < W.heap.size := by omega
    have hz2 : w.heap.size + 1 + 1 < W.heap.size := by omega
    have hw : wrap64 (wrap64 (a * pt.1) + wrap64 (b * pt.2)) = a * pt.1 + b * pt.2 := wrap_val hpt.1 hpt.2 ⟨by omega, by omega⟩ ⟨by omega, by omega⟩
    have hok : okG (galAt (a, b) pt) := ⟨⟨by simp only [galAt]; omega, by simp only [galAt]; omega⟩, ⟨by simp only [galAt]; omega, by simp only [galAt]; omega⟩⟩
    have hsn := depthTo_snoc A pt (pre.map (·.1)) (a, b)
    have HSN := Lib.hid hsn
    have HO := Lib.hid hown
    have HW := Lib.hid hw
    clear hown hlen hbox hsn hw
    gi_wp2
    gi_loopw [9, 31] (fun c i wr => ∃ k : Nat, k ≤ A.length ∧ i = .int .i64 k ∧ c = .int .i64 (cntAgr (galAt (a, b) pt) (A.take k) : Nat) ∧ GalAt wr W.heap.size (galAt (a, b) pt) ∧ Below W.heap.size W wr) (fun _ i _ => A.length - (intOf i).toNat)
    case atStart => exact ⟨0, Nat.zero_le _, rfl, rfl, (by unfold GalAt galAt; rw [← HW.out]; exact GalAt.new W (a, b, wrap64 (wrap64 (a * pt.1) + wrap64 (b * pt.2)))), (Below.refl _ _).alloc (Nat.le_refl _) _⟩
    case round =>
      obtain ⟨k, hk, rfl, rfl, hgal, hbr⟩ := hrel
      obtain ⟨hg1, hg2, hg3, hgf⟩ := hgal.cells
      have hglt := hgal.lt
      by_cases hlt : k < A.length
      · obtain ⟨b', off, rfl, hb', h1, h2⟩ := hA'.at hlt (Nat.le_refl _) hbr
        have hpk := hA _ (getD_mem A k (0, 0) hlt)
        have hcs := cntAgr_succ (galAt (a, b) pt) A k hlt (0, 0)
        have hle := cntAgr_le (galAt (a, b) pt) A k
        have HCS := Lib.hid hcs
        clear hcs
        generalize A.getD k (0, 0) = p at h1 h2 hpk HCS
        have hag := agrees_any p (galAt (a, b) pt) (wr.alloc (.cells #[.int .i64 p.1, .int .i64 p.2] 26)) hpk hok
        have HAG := Lib.hid hag
        clear hag
        generalize galAt (a, b) pt = g at *
        gi_wp2_with (refine ⟨trivial, ?_⟩; gi_at_call 143; refine (CallsIn.inRound l (callsIn_wide.2 HAG.out)).mono ?_; rintro e w' ⟨rfl, hb1⟩)
        · have hy : agr g p = true := by assumption
          have hb2 : Below (wr.heap.size + 1) (wr.alloc (.cells #[.int .i64 p.1, .int .i64 p.2] 26)) w' := by simpa using hb1
          go_roundw
          case rel => exact ⟨k + 1, hlt, by go_num, by rw [HCS.out, hy]; go_num, (hgal.below (Nat.le_refl _) ((Below.refl _ _).alloc (Nat.le_refl _) _)).below (by simp) hb2, al1 hbr hbr.size hb2 (by have := hbr.size; omega)⟩
          case measure => simp [intOf]; omega
        · have hy : agr g p = false := by assumption
          have hb2 : Below (wr.heap.size + 1) (wr.alloc (.cells #[.int .i64 p.1, .int .i64 p.2] 26)) w' := by simpa using hb1
          go_roundw
          case rel => exact ⟨k + 1, hlt, by go_num, by rw [HCS.out, hy]; go_num, (hgal.below (Nat.le_refl _) ((Below.refl _ _).alloc (Nat.le_refl _) _)).below (by simp) hb2, al1 hbr hbr.size hb2 (by have := hbr.size; omega)⟩
          case measure => simp [intOf]; omega
      · obtain rfl : k = A.length := by omega
        rw [List.take_length]
        have HO2 := HO.out.below (Nat.le_refl _) hbr
        obtain ⟨m1, m2, m3, m4, m5⟩ := HO2.cells
        have hb3 := hbr
        have hset := HO2.set (min (depthTo A pt (pre.map (·.1))) (cntAgr (galAt (a, b) pt) A))
        have HSET := Lib.hid hset
        have HB := Lib.hid hbr
        clear hset
        gi_wp2
        all_goals
          have HSET2 := HSET.out
          first
            | rw [show min (depthTo A pt (pre.map (·.1))) (cntAgr (galAt (a, b) pt) A) = cntAgr (galAt (a, b) pt) A from by omega] at HSET2
            | rw [show min (depthTo A pt (pre.map (·.1))) (cntAgr (galAt (a, b) pt) A) = depthTo A pt (pre.map (·.1)) from by omega] at HSET2
          refine ⟨((keepsOthers_below HB.out (Nat.le_refl _)).trans (KeepsOthers.setCell _ _ _)).from _, keepB_set (keepB_below HB.out (by simp; omega)) (by simp), ⟨?_, (hbel.trans (HB.out.mono hbel.size)).setCell (by simp only; omega) _⟩⟩
          rw [List.map_append, List.map_cons, List.map_nil, HSN.out]
          first
            | (rw [show min (depthTo A pt (pre.map (·.1))) (cntAgr (galAt (a, b) pt) A) = cntAgr (galAt (a, b) pt) A from by omega]; exact HSET2)
            | (rw [show min (depthTo A pt (pre.map (·.1))) (cntAgr (galAt (a, b) pt) A) = depthTo A pt (pre.map (·.1)) from by omega]; exact HSET2)
  case done =>
    rintro D ys W hD hys ⟨hown, hbel⟩ hK
    obtain ⟨k1, k2, k3, k4, k5⟩ := hown.cells
    have hfin : depthTo A pt (ys.map (·.1)) = depthOf A pt := by rw [hys]; rfl
    have HF := Lib.hid hfin
    clear hfin hys hown
    gi_wp2
    refine ⟨by simp, .inl ⟨_, _, rfl, run_takeDeferred hK, ?_⟩⟩
    exact ⟨_, results_tmp rfl _ _ _, by rw [← HF.out]; rfl, hbel.trans (belowK_b (w := w) (Nat.le_refl _) W D _ _ (by rw [HSZ.out] at hD; omega) hK rfl rfl)⟩
  case stop =>
    rintro D c pre W _ _ h _
    exact h.elim
end Go.Proofs.Ytcalipoknbbaaaa
