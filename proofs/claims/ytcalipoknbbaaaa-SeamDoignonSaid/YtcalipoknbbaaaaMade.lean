/- made (a helper of the law): a hill by numbers. -/
import Derived.Test.YtcalipoknbbaaaaDigC
import Derived.Test.YtcalipoknbbaaaaLaw4
import Derived.Test.YtcalipoknbbaaaaLaw8
namespace Go.Proofs.Ytcalipoknbbaaaa
open Go.RowKit
set_option linter.unusedSimpArgs false
set_option linter.unusedVariables false

/-- the first ones of the ten -/
theorem slice88 (w : World) (b o : Nat) (k : Nat) (hk : k ≤ 10) : (Instr.sliceAt 88 (.pointer (some ⟨b, o, none⟩)) none (some (.int .i64 (k:Int))) none).run Try.prog w = .ok (.slice (some ⟨b, o, none⟩) k 10) w := by
  have e : Try.prog.arrayLen 88 = 10 := by kernel_rfl
  have e2 : Try.prog.elem 88 = 87 := by kernel_rfl
  have h := run_sliceAt_array_h (P := Try.prog) w 88 ⟨b, o, none⟩ (by kernel_rfl) .i64 k (by omega) (by rw [e]; omega)
  have hs : (sizeOf 87).run Try.prog w = .ok 4 w := by kernel_rfl
  have ha : (⟨b, o, none⟩ : Addr).add 0 = ⟨b, o, none⟩ := addr_add_off b o 0
  rw [h, e, e2, hs]
  simp [Result.andThen, slicedAt, ha]
/-- the first ones of the five -/
theorem slice107 (w : World) (b o : Nat) (k : Nat) (hk : k ≤ 5) : (Instr.sliceAt 107 (.pointer (some ⟨b, o, none⟩)) none (some (.int .i64 (k:Int))) none).run Try.prog w = .ok (.slice (some ⟨b, o, none⟩) k 5) w := by
  have e : Try.prog.arrayLen 107 = 5 := by kernel_rfl
  have e2 : Try.prog.elem 107 = 87 := by kernel_rfl
  have h := run_sliceAt_array_h (P := Try.prog) w 107 ⟨b, o, none⟩ (by kernel_rfl) .i64 k (by omega) (by rw [e]; omega)
  have hs : (sizeOf 87).run Try.prog w = .ok 4 w := by kernel_rfl
  have ha : (⟨b, o, none⟩ : Addr).add 0 = ⟨b, o, none⟩ := addr_add_off b o 0
  rw [h, e, e2, hs]
  simp [Result.andThen, slicedAt, ha]
attribute [local go_sem] slice88

/-- at a step of a region that draws: the call of line -/
theorem step_line (w : World) {ops : Array Oper} {o : Oper} {a : Act} {K : Act → World → Prop} {Q : Exit → Act → World → Prop} {E : Prop} (hgd : o.guard = none) (x y : Operand) (n x0 x1 x2 x3 : Nat)
    (ho : o.op = .call { callee := .value (.func 74), args := #[x, y], argTypes := #[3, 87] }) (hx : a.eval x = .int .i64 n) (hy : a.eval y = .agg #[.int .u8 x0, .int .u8 x1, .int .u8 x2, .int .u8 x3])
    (hn : 1 ≤ n) (hn7 : n ≤ 7) (h0 : x0 < 256) (h1 : x1 < 256) (h2 : x2 < 256) (h3 : x3 < 256)
    (h : ∀ w', Below w.heap.size w w' → K (a.put o.dst (.agg #[.int .i64 (lineOf n (x0, x1, x2, x3)).1, .int .i64 (lineOf n (x0, x1, x2, x3)).2.1, .int .i64 (lineOf n (x0, x1, x2, x3)).2.2])) w') :
    if Region.wanted o (yielded ops a.tmps) = true then Oper.wp Try.prog o a w K Q else E := by
  have hw : Region.wanted o (yielded ops a.tmps) = true := by simp [Region.wanted, hgd]
  rw [if_pos hw]
  have he : a.eval (.func 74) = .func (.func 74) #[] #[] := rfl
  have hr : (execOp a.eval o).run Try.prog w = .ok (.enter 74 #[.int .i64 n, .agg #[.int .u8 x0, .int .u8 x1, .int .u8 x2, .int .u8 x3]]) w := by
    unfold execOp
    simp only [ho, resolve, he, Deferred.ofValue, invoke, Sem.run_bind, Sem.run_pure, Result.andThen_ok, List.map_toArray, List.map_cons, List.map_nil, hx, hy]
    simp
  unfold Oper.wp
  rw [hr, Oper.upon_enter]
  refine (line_any n x0 x1 x2 x3 w hn hn7 h0 h1 h2 h3).mono ?_
  rintro e w' ⟨rfl, hb⟩
  exact h w' hb

/-- one round of made -/
theorem made_step {B n s m : Nat} {w wr W0 w2 w3 : World} {v u : Value} {gs : List Gl} {ls : List By} (hB : w.heap.size = B) (hc : Cell2 wr (B + 2) (.int .i64 n) v) (hr : Cell2 wr (B + 1) (.int .i64 0) (.slice none 0 0)) (hd : DigAt wr B s m ls) (hbel : Below B w wr) (h0 : Below wr.heap.size wr W0) (h1 : Below W0.heap.size W0 w2) (h2 : Below (B + 3) w2 w3)
    (hown : w3.ownsRow (B + 3) 28 3 u gs.length (flatG gs)) (hw1 : B + 3 ≤ wr.heap.size) :
    (w3.setCell ⟨B + 2, 1, none⟩ u).ownsRow (B + 3) 28 3 u gs.length (flatG gs) ∧ Cell2 (w3.setCell ⟨B + 2, 1, none⟩ u) (B + 2) (.int .i64 n) u ∧
      Cell2 (w3.setCell ⟨B + 2, 1, none⟩ u) (B + 1) (.int .i64 0) (.slice none 0 0) ∧ DigAt (w3.setCell ⟨B + 2, 1, none⟩ u) B s m ls ∧ Below B w (w3.setCell ⟨B + 2, 1, none⟩ u) := by
  have s0 := h0.size
  refine ⟨ownsRow_setCell hown _ u (show B + 2 < B + 3 by omega), ((((hc.below (by omega) h0).below (by omega) h1).below (by omega) h2).set1 u), ((((hr.below (by omega) h0).below (by omega) h1).below (by omega) h2).far (by omega) u), ?_,
    (((hbel.trans (h0.mono (by omega))).trans (h1.mono (by omega))).trans (h2.mono (by omega))).setCell (p := ⟨B + 2, 1, none⟩) (by simp) u⟩
  have hd3 := ((hd.below (by omega) h0).below (by omega) h1).below (by omega) h2
  unfold DigAt
  rw [heap_setCell_other w3 ⟨B + 2, 1, none⟩ B u (by show B ≠ B + 2; omega)]
  exact hd3
theorem madeG_succ (n : Nat) (ls : List By) (j : Nat) (d : By) (h : j < ls.length) : madeG n (ls.take (j + 1)) = madeG n (ls.take j) ++ [lineOf n (ls.getD j d)] := by
  rw [madeG, madeG, List.take_succ_eq_append_getElem h, List.map_append, getD_eq ls j d h]; rfl
theorem madeG_bd (n : Nat) (ls : List By) (j : Nat) : (madeG n (ls.take j)).length ≤ j := by rw [madeG_length]; exact List.length_take_le _ _

theorem Cell2.new (w : World) (B : Nat) (hB : w.heap.size = B) (a b : Value) (t : TypeId) (ha : a.oneCell' = true := by rfl) (hb : b.oneCell' = true := by rfl) : Cell2 (w.alloc (.cells #[a, b] t)) B a b := by
  subst hB
  exact ⟨by simp, by simp, by simp, by simp, by simp⟩
set_option maxRecDepth 100000 in
set_option maxHeartbeats 8000000 in
theorem made_any (s m size many : Nat) (ls : List By) (n : Nat) (hn : n = 1 + s % size) (h1 : 1 ≤ size) (h7 : size ≤ 7) (hm : many ≤ 10) (hs : s < 256) (hmm : m < 256) (hls : ls.length = 10) (hok : ∀ x ∈ ls, okB x) (w : World) :
    Calls Try.prog 63 #[.agg (digCells s m ls), .int .i64 size, .int .i64 many] w (HillPost w n (madeG n (ls.take (m % (many + 1))))) := by
  have hr : s % size < size := Nat.mod_lt _ h1
  have hk : m % (many + 1) < many + 1 := Nat.mod_lt _ (by omega)
  have e1 : (s : Int) % (size : Int) = ((s % size : Nat) : Int) := by simp
  have e2 : (m : Int) % ((many : Int) + 1) = ((m % (many + 1) : Nat) : Int) := by simp
  have hz : ((size : Int) == 0) = false := by simp; omega
  have hz2 : (((many : Int) + 1) == 0) = false := by simp; omega
  have hz3 : ¬ (many : Int) + 1 = 0 := by omega
  have hz4 : ¬ (size : Int) = 0 := by omega
  have e3 : 1 + ((s % size : Nat) : Int) = (n : Int) := by omega
  have hD := DigAt.new w s m ls
  have d0 : (digCells s m ls)[0]? = some (.int .u8 s) := rfl
  have d1 : (digCells s m ls)[1]? = some (.int .u8 m) := rfl
  have HD := Lib.hid hD
  clear hD
  have hn7 : n ≤ 7 := by omega
  have hn1 : 1 ≤ n := by omega
  generalize s % size = r at *
  generalize m % (many + 1) = k at *
  have hk10 : k ≤ 10 := by omega
  clear hn
  go_enter Try.func63, Try.ntmps63
  go_wp2
  have HB0 := Lib.hid ((below_two w (.cells (digCells s m ls) 90) (.cells #[.int .i64 0, .slice none 0 0] 24)).alloc (by simp <;> omega) (.cells #[.int .i64 n, .slice none 0 0] 24))
  have HD0 : DigAt (((w.alloc (.cells (digCells s m ls) 90)).alloc (.cells #[.int .i64 0, .slice none 0 0] 24)).alloc (.cells #[.int .i64 n, .slice none 0 0] 24)) w.heap.size s m ls :=
    (HD.out.below (N := w.heap.size + 1) (by omega) ((Below.refl _ _).alloc (by simp) _)).below (N := w.heap.size + 1) (by omega) ((Below.refl _ _).alloc (by simp) _)
  have HDD := Lib.hid HD0
  have HC1 := Lib.hid (Cell2.new ((w.alloc (.cells (digCells s m ls) 90)).alloc (.cells #[.int .i64 0, .slice none 0 0] 24)) (w.heap.size + 1 + 1) (by simp) (.int .i64 n) (.slice none 0 0) 24)
  have HC2 := Lib.hid ((Cell2.new (w.alloc (.cells (digCells s m ls) 90)) (w.heap.size + 1) (by simp) (.int .i64 0) (.slice none 0 0) 24).below (N := w.heap.size + 1 + 1) (by omega) ((Below.refl _ _).alloc (by simp) (.cells #[.int .i64 n, .slice none 0 0] 24)))
  clear HD0 d0 d1 e1 e2 e3 hz hz2 hz3 hz4
  go_loopw [26] (fun i wr => ∃ j v, j ≤ k ∧ i = .int .i64 (j : Nat) ∧ wr.ownsRow (w.heap.size + 3) 28 3 v (madeG n (ls.take j)).length (flatG (madeG n (ls.take j))) ∧ Cell2 wr (w.heap.size + 1 + 1) (.int .i64 n) v ∧ Cell2 wr (w.heap.size + 1) (.int .i64 0) (.slice none 0 0) ∧ DigAt wr w.heap.size s m ls ∧ Below w.heap.size w wr) (fun i _ => k - (intOf i).toNat)
  case atStart => exact ⟨0, .slice none 0 0, Nat.zero_le _, rfl, World.ownsRow_nil _ _ _ _, HC1.out, HC2.out, HDD.out, HB0.out⟩
  case round =>
    obtain ⟨j, v, hj, rfl, hown, hcell, hres, hdig, hbel⟩ := hrel
    by_cases hlt : j < k
    · have hjl : j < ls.length := by omega
      have hx := hok _ (getD_mem ls j (0, 0, 0, 0) hjl)
      have hst := madeG_succ n ls j (0, 0, 0, 0) hjl
      have hbd := madeG_bd n ls j
      obtain ⟨c0, c1, c2, c3⟩ := hdig.at j (0, 0, 0, 0) hjl
      have HS := Lib.hid hst
      have HO := Lib.hid hown
      have HC := Lib.hid hcell
      have HC2 := Lib.hid hres
      have HDG := Lib.hid hdig
      have hw1 : w.heap.size + 3 ≤ wr.heap.size := hcell.1
      obtain ⟨y0, y1, y2, y3, y4⟩ := hcell
      clear hst hown hres hdig
      generalize ls.getD j (0, 0, 0, 0) = x at c0 c1 c2 c3 hx HS
      obtain ⟨x0, x1, x2, x3⟩ := x
      obtain ⟨b0, b1, b2, b3⟩ := hx
      have z1 : w.heap.size + 1 + 1 < wr.heap.size := by omega
      have z2 : w.heap.size + 1 + 1 < w.heap.size + 3 := by omega
      have HJ := Lib.hid hjl
      clear hjl
      go_wp2
      have hb0 : Below wr.heap.size wr (wr.alloc (.cells #[.int .u8 x0, .int .u8 x1, .int .u8 x2, .int .u8 x3] 87)) := (Below.refl _ _).alloc (Nat.le_refl _) _
      have f0 : (wr.alloc (.cells #[.int .u8 x0, .int .u8 x1, .int .u8 x2, .int .u8 x3] 87)).cell? ⟨wr.heap.size, 0, none⟩ = some (.int .u8 x0) := by simp
      have f1 : (wr.alloc (.cells #[.int .u8 x0, .int .u8 x1, .int .u8 x2, .int .u8 x3] 87)).cell? ⟨wr.heap.size, 1, none⟩ = some (.int .u8 x1) := by simp
      have f2 : (wr.alloc (.cells #[.int .u8 x0, .int .u8 x1, .int .u8 x2, .int .u8 x3] 87)).cell? ⟨wr.heap.size, 2, none⟩ = some (.int .u8 x2) := by simp
      have f3 : (wr.alloc (.cells #[.int .u8 x0, .int .u8 x1, .int .u8 x2, .int .u8 x3] 87)).cell? ⟨wr.heap.size, 3, none⟩ = some (.int .u8 x3) := by simp
      have hs0 : (wr.alloc (.cells #[.int .u8 x0, .int .u8 x1, .int .u8 x2, .int .u8 x3] 87)).heap.size = wr.heap.size + 1 := by simp
      have HO0 := Lib.hid (HO.out.alloc (.cells #[.int .u8 x0, .int .u8 x1, .int .u8 x2, .int .u8 x3] 87))
      have hc0 := HC.out.below (by omega) hb0
      generalize (wr.alloc (.cells #[.int .u8 x0, .int .u8 x1, .int .u8 x2, .int .u8 x3] 87)) = W0 at *
      have HB0' := Lib.hid hb0
      have hw0 : w.heap.size + 3 ≤ W0.heap.size := by omega
      have hwz : wr.heap.size < W0.heap.size := by omega
      clear hb0 y1 y2 y3 y4 c0 c1 c2 c3 hs0
      obtain ⟨y0', y1, y2, y3, y4⟩ := hc0
      clear y3
      go_region_law
        (first
          | (refine step_line _ (by rfl) _ _ n x0 x1 x2 x3 (by rfl) (by rfl) (by rfl) hn1 hn7 b0 b1 b2 b3 ?_; intro w2 hb2; have hbw : Below W0.heap.size W0 w2 := ⟨hb2.os, hb2.tape, hb2.output, hb2.size, hb2.block⟩; have hz2b := Nat.le_trans hw0 hbw.size; have hz1c := Nat.lt_of_lt_of_le y0' hbw.size; have k4 := (hbw.cell (p := ⟨w.heap.size + 1 + 1, 1, none⟩) y0').trans y2; have k5 := (hbw.frozen (p := ⟨w.heap.size + 1 + 1, 1, none⟩) y0').trans y4; have HO2 := Lib.hid (owns_below HO0.out (Nat.le_refl _) hbw))
          | (refine step_gal _ (by rfl) _ _ (by rfl) (w.heap.size + 3) _ (madeG n (ls.take j)) (lineOf n (x0, x1, x2, x3)) (by rfl) ((HO2.out.alloc _)) w2.heap.size 1 (by rfl) (by simp) (by simp) (by simp) (by omega) (by simp; omega) ?_; intro v' w3 hown3 hgrow hblk; obtain ⟨q', c', rfl, _, _⟩ := owns_cap hown3; (first | have hq := grown_al HO2.out hz2b hgrow | have hq := grown_drew HO2.out hz2b hgrow); have k6 := (hq.cell (p := ⟨w.heap.size + 1 + 1, 1, none⟩) z2).trans k4; have k7 := (hq.frozen (p := ⟨w.heap.size + 1 + 1, 1, none⟩) z2).trans k5))
      all_goals
        have hown4 : w3.ownsRow (w.heap.size + 3) 28 3 (.slice q' ((madeG n (ls.take j)).length + 1) c') (madeG n (ls.take (j + 1))).length (flatG (madeG n (ls.take (j + 1)))) := by
          rw [HS.out, show (madeG n (ls.take j)).length + 1 = (madeG n (ls.take j) ++ [lineOf n (x0, x1, x2, x3)]).length from by simp]; exact hown3
        have hn := made_step rfl HC.out HC2.out HDG.out hbel HB0'.out hbw hq hown4 hw1
        clear hown3 hown4
        go_wp2
        go_roundw
        case rel => exact ⟨j + 1, _, by omega, by go_num, hn⟩
        case measure => simp [intOf]; omega
    · obtain rfl : j = k := by omega
      obtain ⟨q1, cc, rfl, _, hn1'⟩ := owns_cap hown
      have HO := Lib.hid hown
      have H1 := Lib.hid hres
      have H2 := Lib.hid hbel
      obtain ⟨x0, x1, x2, x3, x4⟩ := hres
      obtain ⟨y0, y1, y2, y3, y4⟩ := hcell
      clear hown hn1' hdig
      go_wp2
      obtain ⟨k0, k1, k2, _, _⟩ := H1.out.set (.int .i64 n) (.slice q1 (madeG n (ls.take j)).length cc)
      have hbn := (H2.out.setCell (p := ⟨w.heap.size + 1, 0, none⟩) (Nat.le_succ _) (.int .i64 n)).setCell (p := ⟨w.heap.size + 1, 1, none⟩) (Nat.le_succ _) (.slice q1 (madeG n (ls.take j)).length cc)
      have r3 := ownsRow_setCell (ownsRow_setCell HO.out ⟨w.heap.size + 1, 0, none⟩ (.int .i64 n) (show w.heap.size + 1 < _ by omega)) ⟨w.heap.size + 1, 1, none⟩ (.slice q1 (madeG n (ls.take j)).length cc) (show w.heap.size + 1 < _ by omega)
      generalize hW : ((wr.setCell ⟨w.heap.size + 1, 0, none⟩ (.int .i64 n)).setCell ⟨w.heap.size + 1, 1, none⟩ (.slice q1 (madeG n (ls.take j)).length cc)) = W at *
      refine bodyPost_ret (by simp [results, Try.results63, go_sem, k1, k2]; try rfl) rfl ?_
      exact ⟨q1, cc, rfl, r3.mono (by omega), hbn⟩
end Go.Proofs.Ytcalipoknbbaaaa
namespace Go.Proofs.Ytcalipoknbbaaaa
open Go.RowKit

/-- the galleries of a hill by numbers -/
def digG (n many m : Nat) (ls : List By) : List Gl := madeG n (ls.take (m % (many + 1)))
theorem digG_len (n many m : Nat) (ls : List By) : (digG n many m ls).length ≤ many := by
  rw [digG, madeG_length]
  have := Nat.mod_lt m (show 0 < many + 1 by omega)
  have := List.length_take_le (m % (many + 1)) ls
  omega
theorem digG_err (n many m : Nat) (ls : List By) (h1 : 1 ≤ n) (h7 : n ≤ 7) : ∀ g ∈ digG n many m ls, errG g = 0 := madeG_err n _ h1 h7
theorem digG_errH (n many m : Nat) (ls : List By) (h1 : 1 ≤ n) (h7 : n ≤ 7) (hm : many ≤ 10) : errH n (digG n many m ls) = 0 :=
  errH_of n _ h1 h7 (by have := digG_len n many m ls; omega) (digG_err n many m ls h1 h7)
theorem made_at (size many s m : Nat) (ls : List By) (n : Nat) (hn : n = 1 + s % size) (h1 : 1 ≤ size) (h7 : size ≤ 7) (hm : many ≤ 10) (hs : s < 256) (hmm : m < 256) (hls : ls.length = 10) (hok : ∀ x ∈ ls, okB x) (w : World) (a b : Int) (ha : a = size) (hb : b = many) :
    Calls Try.prog 63 #[.agg (digCells s m ls), .int .i64 a, .int .i64 b] w (HillPost w n (digG n many m ls)) := by
  subst ha
  subst hb
  exact made_any s m size many ls n hn h1 h7 hm hs hmm hls hok w
/-- the whole of a hill by numbers, read out of its box -/
theorem digLen (s m : Nat) (ls : List By) (h : ls.length = 10) : (digCells s m ls).size = 42 := by
  have : ∀ l : List By, (flatB l).length = 4 * l.length := by
    intro l
    induction l with
    | nil => rfl
    | cons x l ih => simp [flatB] at ih ⊢; omega
  simp [digCells, this, h]
theorem info90 : (Try.prog.info? 90).map (·.size) = some 42 := by kernel_rfl
theorem dig_load (W : World) (B s m : Nat) (ls : List By) (h : ls.length = 10) (hd : DigAt W B s m ls) : (Instr.loadAt 90 (.pointer (some ⟨B, 0, none⟩))).run Try.prog W = .ok (.agg (digCells s m ls)) W := by
  simp only [Instr.loadAt, Instr.sureAddr, Sem.run_bind, Sem.run_pure, Result.andThen]
  exact run_loadVar_row W B 90 90 _ (0, 0) _ hd Try.underlying90 rfl (by rw [info90, digLen s m ls h])
theorem wpList_load90 {ops : Array Oper} {rest : List Oper} {op : Oper} {a : Act} {Q : Exit → Act → World → Prop} (W : World) (B s m : Nat) (ls : List By) (hls : ls.length = 10) (hd : DigAt W B s m ls) (x : Operand)
    (hgd : op.guard = none) (ho : op.op = .load 90 x) (hx : a.eval x = .pointer (some ⟨B, 0, none⟩)) (h : wpList Try.prog ops Q rest (a.put op.dst (.agg (digCells s m ls))) W) : wpList Try.prog ops Q (op :: rest) a W :=
  wpList_plain hgd fun _ hK => by
    have hl := run_loadVar_row (P := Try.prog) W B 90 90 _ (0, 0) _ hd Try.underlying90 rfl (by rw [info90, digLen s m ls hls])
    unfold Oper.wp execOp
    simp only [ho, hx, Instr.loadAt, Instr.sureAddr, Sem.run_bind, Sem.run_pure, Result.andThen_ok, hl]
    exact hK _ _ h
theorem regL_ok (n : Nat) (gs : List Gl) (h7 : n ≤ 7) : ∀ p ∈ regL n gs, okP p := by
  intro p hp
  have := mem_grid.1 (List.mem_filter.1 hp).1
  exact ⟨⟨by omega, by omega⟩, ⟨by omega, by omega⟩⟩
/-- how many of the first places agree -/
def yesTo (ps : List Pl) (g : Gl) (i : Nat) : Nat := ((ps.take i).filter (agr g)).length
theorem yesTo_succ (ps : List Pl) (g : Gl) (i : Nat) (d : Pl) (h : i < ps.length) : yesTo ps g (i + 1) = yesTo ps g i + if agr g (ps.getD i d) then 1 else 0 := by
  rw [yesTo, yesTo, List.take_succ_eq_append_getElem h, List.filter_append, List.length_append, getD_eq ps i d h]
  congr 1
  simp only [List.filter_cons, List.filter_nil]
  split <;> rfl
theorem yesTo_le (ps : List Pl) (g : Gl) (i : Nat) : yesTo ps g i ≤ i := by
  rw [yesTo]
  exact Nat.le_trans (List.length_filter_le _ _) (List.length_take_le _ _)
theorem yesTo_all (n : Nat) (gs : List Gl) (g : Gl) : yesTo (regL n gs) g (regL n gs).length = yesOf n gs g := by rw [yesTo, List.take_length, yesOf]
end Go.Proofs.Ytcalipoknbbaaaa
