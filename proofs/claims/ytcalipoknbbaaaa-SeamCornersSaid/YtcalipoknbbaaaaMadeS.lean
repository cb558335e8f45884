/- Places by numbers: their cells; slices.SortFunc by the order of the law; made (a helper of the law). -/
import Derived.Test.YtcalipoknbbaaaaDigC
import Derived.Test.YtcalipoknbbaaaaSortS
import Derived.Test.YtcalipoknbbaaaaRadm
import Derived.Test.YtcalipoknbbaaaaClone
import Derived.Test.YtcalipoknbbaaaaHullW
namespace Go.Proofs.Ytcalipoknbbaaaa
open Go.RowKit Go.ChangeShapes Go.WideShapes
set_option linter.unusedSimpArgs false
set_option linter.unusedVariables false

abbrev B2 := Nat × Nat
/-- the cells of places by numbers -/
def flat2 (ls : List B2) : List Value := ls.flatMap fun x => [.int .u8 x.1, .int .u8 x.2]
def ok2 (x : B2) : Prop := x.1 < 256 ∧ x.2 < 256
def spotCells (m : Nat) (ls : List B2) : Array Value := (.int .u8 m :: flat2 ls).toArray
theorem flat2_get : ∀ (ls : List B2) (i : Nat) (d : B2), i < ls.length → (flat2 ls)[i * 2]? = some (.int .u8 (ls.getD i d).1) ∧ (flat2 ls)[i * 2 + 1]? = some (.int .u8 (ls.getD i d).2)
  | [], i, _, h => by simp at h
  | g :: ls, 0, _, _ => by simp [flat2]
  | g :: ls, i + 1, d, h => by
    have ih := flat2_get ls i d (by simpa using h)
    have e : flat2 (g :: ls) = .int .u8 g.1 :: .int .u8 g.2 :: flat2 ls := by simp [flat2]
    rw [e, show (i + 1) * 2 = i * 2 + 1 + 1 from by omega]
    simpa using ih
/-- places by numbers in memory -/
def SpotAt (W : World) (B m : Nat) (ls : List B2) : Prop := W.heap[B]? = some (.cells (spotCells m ls) 113 (0, 0))
theorem SpotAt.new (w : World) (m : Nat) (ls : List B2) : SpotAt (w.alloc (.cells (spotCells m ls) 113)) w.heap.size m ls := heap_alloc_new w _
theorem SpotAt.lt {W : World} {B m : Nat} {ls : List B2} (h : SpotAt W B m ls) : B < W.heap.size := (Array.getElem?_eq_some_iff.1 h).1
theorem SpotAt.below {w w' : World} {B m : Nat} {ls : List B2} (h : SpotAt w B m ls) {N : Nat} (hN : B < N) (hb : Below N w w') : SpotAt w' B m ls := (hb.block B hN).trans h
theorem SpotAt.head {W : World} {B m : Nat} {ls : List B2} (h : SpotAt W B m ls) : W.cell? ⟨B, 0, none⟩ = some (.int .u8 m) := by
  rw [cell_of_row _ B 0 _ 113 (0, 0) h]; rfl
theorem SpotAt.at {W : World} {B m : Nat} {ls : List B2} (h : SpotAt W B m ls) (i : Nat) (d : B2) (hi : i < ls.length) :
    W.cell? ⟨B, 1 + i * 2, none⟩ = some (.int .u8 (ls.getD i d).1) ∧ W.cell? ⟨B, 1 + i * 2 + 1, none⟩ = some (.int .u8 (ls.getD i d).2) := by
  obtain ⟨c0, c1⟩ := flat2_get ls i d hi
  have e : ∀ j, (spotCells m ls)[1 + j]? = (flat2 ls)[j]? := by intro j; rw [spotCells, List.getElem?_toArray, show 1 + j = j + 1 by omega]; simp
  refine ⟨?_, ?_⟩
  · rw [cell_of_row _ B _ _ 113 (0, 0) h, e]; exact c0
  · rw [cell_of_row _ B _ _ 113 (0, 0) h, Nat.add_assoc, e]; exact c1

theorem pairs_of : ∀ (l : List Value) (m : Nat), l.length = 2 * m → (∀ v ∈ l, ∃ x : Nat, v = .int .u8 x ∧ x < 256) → ∃ ls : List B2, ls.length = m ∧ l = flat2 ls ∧ ∀ x ∈ ls, ok2 x
  | [], 0, _, _ => ⟨[], rfl, rfl, by simp⟩
  | [], m + 1, h, _ => by simp at h
  | a :: b :: l, 0, h, _ => by simp at h
  | a :: b :: l, m + 1, h, hv => by
    obtain ⟨x0, rfl, k0⟩ := hv a (by simp)
    obtain ⟨x1, rfl, k1⟩ := hv b (by simp)
    obtain ⟨ls, e1, e2, e3⟩ := pairs_of l m (by simp at h; omega) (fun v hv' => hv v (by simp [hv']))
    refine ⟨(x0, x1) :: ls, by simp [e1], by rw [e2]; simp [flat2], fun x hx => ?_⟩
    rcases List.mem_cons.1 hx with rfl | hx
    · exact ⟨k0, k1⟩
    · exact e3 x hx
  | [a], m, h, _ => by simp at h; omega

theorem cells113 : Try.prog.cellTypes Try.prog.depth 113 = some (List.replicate 25 5) := by kernel_rfl
theorem cells110 : Try.prog.cellTypes Try.prog.depth 110 = some (List.replicate 2 5) := by kernel_rfl
theorem size113 : Try.prog.cellsOf 113 = 25 := by kernel_rfl
theorem size110 : Try.prog.cellsOf 110 = 2 := by kernel_rfl
theorem plain113 : plainT Try.prog 5 113 = true := by kernel_rfl
theorem plain110 : plainT Try.prog 5 110 = true := by kernel_rfl

theorem spot_gen {P : Program} {fs : Array Field} (hu : P.underlying 113 = some (.struct fs)) (hu5 : P.underlying 5 = some (.int .u8)) (hc : P.cellTypes P.depth 113 = some (List.replicate 25 5)) (hsz0 : P.cellsOf 113 = 25)
    {w : World} {r : Reach} {base : Nat} {v : Value} (h : Value.okWide P w r base 113 v) : ∃ (m : Nat) (ls : List B2), v = .agg (spotCells m ls) ∧ m < 256 ∧ ls.length = 12 ∧ ∀ x ∈ ls, ok2 x := by
  obtain ⟨cs, rfl, hsz, hrow⟩ := okWide_row (.inl ⟨_, hu⟩) h
  rw [hsz0] at hsz
  have hb := cells_u8 hu5 hc (by omega) hsz hrow
  obtain ⟨l, hl⟩ : ∃ l, cs.toList = l := ⟨_, rfl⟩
  have hll : l.length = 25 := by rw [← hl]; simpa using hsz
  have hv : ∀ v ∈ l, ∃ x : Nat, v = .int .u8 x ∧ x < 256 := by
    intro v hv
    obtain ⟨i, hi, e⟩ := List.getElem_of_mem hv
    refine hb i v ?_
    rw [← Array.getElem?_toList, hl, List.getElem?_eq_getElem hi, e]
  match l, hll, hl, hv with
  | a :: l, hll, hl, hv =>
    obtain ⟨m, rfl, k0⟩ := hv a (by simp)
    obtain ⟨ls, e1, e2, e3⟩ := pairs_of l 12 (by simp at hll; omega) (fun v hv' => hv v (by simp [hv']))
    refine ⟨m, ls, ?_, k0, e1, e3⟩
    congr 1
    rw [spotCells, ← e2, ← hl]
theorem b2_gen {P : Program} {n e : Nat} (hu : P.underlying 110 = some (.array n e)) (hu5 : P.underlying 5 = some (.int .u8)) (hc : P.cellTypes P.depth 110 = some (List.replicate 2 5)) (hsz0 : P.cellsOf 110 = 2)
    {w : World} {r : Reach} {base : Nat} {v : Value} (h : Value.okWide P w r base 110 v) : ∃ x : B2, v = .agg #[.int .u8 x.1, .int .u8 x.2] ∧ ok2 x := by
  obtain ⟨cs, rfl, hsz, hrow⟩ := okWide_row (.inr ⟨_, _, hu⟩) h
  rw [hsz0] at hsz
  have hb := cells_u8 hu5 hc (by omega) hsz hrow
  obtain ⟨l⟩ := cs
  clear hrow h
  match l, hsz, hb with
  | [a, b], _, hb =>
    obtain ⟨x0, rfl, k0⟩ := hb 0 a rfl
    obtain ⟨x1, rfl, k1⟩ := hb 1 b rfl
    exact ⟨(x0, x1), rfl, k0, k1⟩
/-- places by numbers, and a place by numbers, as arguments -/
theorem spot_of {w : World} {r : Reach} {base : Nat} {v : Value} : Value.okWide Try.prog w r base 113 v → ∃ (m : Nat) (ls : List B2), v = .agg (spotCells m ls) ∧ m < 256 ∧ ls.length = 12 ∧ ∀ x ∈ ls, ok2 x :=
  spot_gen Try.underlying113 Try.underlying5 cells113 size113
theorem b2_of {w : World} {r : Reach} {base : Nat} {v : Value} : Value.okWide Try.prog w r base 110 v → ∃ x : B2, v = .agg #[.int .u8 x.1, .int .u8 x.2] ∧ ok2 x :=
  b2_gen Try.underlying110 Try.underlying5 cells110 size110
theorem spotLen (m : Nat) (ls : List B2) (h : ls.length = 12) : (spotCells m ls).size = 25 := by
  have : ∀ l : List B2, (flat2 l).length = 2 * l.length := by
    intro l
    induction l with
    | nil => rfl
    | cons x l ih => simp [flat2] at ih ⊢; omega
  simp [spotCells, this, h]
theorem info113 : (Try.prog.info? 113).map (·.size) = some 25 := by kernel_rfl
theorem wpList_load113 {ops : Array Oper} {rest : List Oper} {op : Oper} {a : Act} {Q : Exit → Act → World → Prop} (W : World) (B m : Nat) (ls : List B2) (hls : ls.length = 12) (hd : SpotAt W B m ls) (x : Operand)
    (hgd : op.guard = none) (ho : op.op = .load 113 x) (hx : a.eval x = .pointer (some ⟨B, 0, none⟩)) (h : wpList Try.prog ops Q rest (a.put op.dst (.agg (spotCells m ls))) W) : wpList Try.prog ops Q (op :: rest) a W :=
  wpList_plain hgd fun _ hK => by
    have hl := run_loadVar_row (P := Try.prog) W B 113 113 _ (0, 0) _ hd Try.underlying113 rfl (by rw [info113, spotLen m ls hls])
    unfold Oper.wp execOp
    simp only [ho, hx, Instr.loadAt, Instr.sureAddr, Sem.run_bind, Sem.run_pure, Result.andThen_ok, hl]
    exact hK _ _ h
/-- the first ones of the twelve -/
theorem slice111 (w : World) (b o : Nat) (k : Nat) (hk : k ≤ 12) : (Instr.sliceAt 111 (.pointer (some ⟨b, o, none⟩)) none (some (.int .i64 (k:Int))) none).run Try.prog w = .ok (.slice (some ⟨b, o, none⟩) k 12) w := by
  have e : Try.prog.arrayLen 111 = 12 := by kernel_rfl
  have e2 : Try.prog.elem 111 = 110 := by kernel_rfl
  have h := run_sliceAt_array_h (P := Try.prog) w 111 ⟨b, o, none⟩ (by kernel_rfl) .i64 k (by omega) (by rw [e]; omega)
  have hs : (sizeOf 110).run Try.prog w = .ok 2 w := by kernel_rfl
  have ha : (⟨b, o, none⟩ : Addr).add 0 = ⟨b, o, none⟩ := addr_add_off b o 0
  rw [h, e, e2, hs]
  simp [Result.andThen, slicedAt, ha]
end Go.Proofs.Ytcalipoknbbaaaa
namespace Go.Proofs.Ytcalipoknbbaaaa
open Go.RowKit
open Go.Sort (putRowK size_putRowK cell?_putRowK_other)
set_option linter.unusedSimpArgs false
set_option linter.unusedVariables false

def cfM (p q : Pl) : Int := 100 * (p.1 - q.1) + p.2 - q.2

set_option maxHeartbeats 400000 in
theorem made1_any (p q : Pl) (w : World) (hp : NV.inG p) (hq : NV.inG q) :
    Calls Try.prog 137 #[.agg #[.int .i64 p.1, .int .i64 p.2], .agg #[.int .i64 q.1, .int .i64 q.2]] w fun e w' => e = .returned (.int .i64 (cfM p q)) ∧ ∃ n os', w' = Sort.grow (w.drewN n) os' := by
  obtain ⟨⟨p1, p2⟩, p3, p4⟩ := hp
  obtain ⟨⟨q1, q2⟩, q3, q4⟩ := hq
  go_enter Try.func137, Try.ntmps137
  go_wp2
  go_ret
  exact ⟨ret_int rfl, 0, _, by rw [Sort.alloc_eq_grow, Sort.alloc_eq_grow, Sort.grow_grow]; rfl⟩

abbrev Grd : Type := { p : Pl // NV.inG p }
def encM (x : Grd) : List Value := [.int .i64 x.1.1, .int .i64 x.1.2]
def cfG (x y : Grd) : Int := cfM x.1 y.1
/-- a comparison of the law -/
def CmpM (pf : Nat) : Prop := (∀ args w, (callFunc pf args).run Try.prog w = .ok (.enter pf args) w) ∧ ∀ (p q : Pl) (w : World), NV.inG p → NV.inG q →
  Calls Try.prog pf #[.agg #[.int .i64 p.1, .int .i64 p.2], .agg #[.int .i64 q.1, .int .i64 q.2]] w fun e w' => e = .returned (.int .i64 (cfM p q)) ∧ ∃ n os', w' = Sort.grow (w.drewN n) os'
theorem cmp137 : CmpM 137 := ⟨enters_of Try.func137 (by kernel_rfl) rfl, made1_any⟩
theorem cmpLaysM {pf : Nat} (h : CmpM pf) [Inhabited Grd] (blk off size : Nat) (w : World) : CmpLays Try.prog pf #[] encM 2 cfG blk off size w := by
  intro m os dk _ x y
  exact h.2 x.1 y.1 _ x.2 y.2
theorem ltM (x y : Grd) : ltOf cfG x y = decide (cfM x.1 y.1 < 0) := rfl
/-- the number that made sorts by -/
def keyM (x : Grd) : Int := 100 * x.1.1 + x.1.2
theorem ltK (x y : Grd) : ltOf cfG x y = decide (keyM x < keyM y) := by
  have e : cfM x.1 y.1 = keyM x - keyM y := by unfold cfM keyM; grind
  rw [ltM, e]
  simp only [decide_eq_decide]
  omega
theorem swoM : Sort.SWO (ltOf cfG) where
  irrefl x := by rw [ltK]; exact decide_eq_false (Int.lt_irrefl _)
  trans x y z h1 h2 := by
    rw [ltK, decide_eq_true_eq] at *
    exact Int.lt_trans h1 h2
  ntrans x y z h1 h2 := by
    rw [ltK, decide_eq_false_iff_not, Int.not_lt] at *
    exact Int.le_trans h2 h1

def toGrd : (r : List Pl) → (∀ p ∈ r, NV.inG p) → List Grd
  | [], _ => []
  | p :: r, h => ⟨p, h p (by simp)⟩ :: toGrd r fun q hq => h q (by simp [hq])
theorem toGrd_val : ∀ (r : List Pl) (h : ∀ p ∈ r, NV.inG p), (toGrd r h).map (·.1) = r
  | [], _ => rfl
  | p :: r, h => by rw [toGrd, List.map_cons, toGrd_val r]

theorem holdsM_of [Inhabited Grd] (w : World) (blk off : Nat) (l : List Grd) (h : PutP w blk off (l.map (·.1))) : Sort.HoldsK encM 2 w blk off l.toArray := by
  intro t ht
  rw [Sort.size_flatK] at ht
  rw [Sort.get_flatK _ _ _ _ ht]
  have ht' : t < l.length * 2 := by simpa using ht
  have hi : t / 2 < l.length := by omega
  obtain ⟨h1, h2, h3, h4⟩ := h (t / 2) (by simpa using hi)
  have hg : (l.map (·.1)).getD (t / 2) (0, 0) = (l.toArray[t / 2]!).1 := by
    rw [getElem!_pos l.toArray (t / 2) (by simpa using hi), getD_eq _ _ _ (by simpa using hi)]
    simp
  rw [hg] at h1 h2
  have hm : t % 2 = 0 ∨ t % 2 = 1 := by omega
  rcases hm with hm | hm
  · have e : off + t = off + t / 2 * 2 := by omega
    rw [e, hm]
    exact ⟨h1, h3⟩
  · have e : off + t = off + t / 2 * 2 + 1 := by omega
    rw [e, hm]
    exact ⟨h2, h4⟩
theorem putM_of [Inhabited Grd] (w : World) (blk off : Nat) (l : List Grd) (h : Sort.HoldsK encM 2 w blk off l.toArray) : PutP w blk off (l.map (·.1)) := by
  intro i hi
  rw [List.length_map] at hi
  have hg : (l.map (·.1)).getD i (0, 0) = (l.toArray[i]!).1 := by
    rw [getElem!_pos l.toArray i (by simpa using hi), getD_eq _ _ _ (by simpa using hi)]
    simp
  have a := h (i * 2) (by rw [Sort.size_flatK]; simp; omega)
  have b := h (i * 2 + 1) (by rw [Sort.size_flatK]; simp; omega)
  rw [Sort.get_flatK _ _ _ _ (by simp; omega)] at a b
  rw [show i * 2 / 2 = i by omega, show i * 2 % 2 = 0 by omega] at a
  rw [show (i * 2 + 1) / 2 = i by omega, show (i * 2 + 1) % 2 = 1 by omega, ← Nat.add_assoc] at b
  rw [hg]
  exact ⟨a.1, b.1, a.2, b.2⟩

set_option maxHeartbeats 1000000 in
theorem sortM_gen {pf : Nat} (hpf : CmpM pf) (blk off cap : Nat) (r : List Pl) (hr : ∀ p ∈ r, NV.inG p) (w : World) (hblk : blk < w.heap.size) (hl : r.length ≤ 12) (hP : PutP w blk off r) :
    Calls Try.prog 85 #[.slice (some ⟨blk, off, none⟩) r.length cap, .func (.func pf) #[] #[]] w fun e w' =>
      e = .returned (.tuple #[]) ∧ ∃ l, l.Perm r ∧ l.Pairwise (fun p q => 0 ≤ cfM q p) ∧ PutP w' blk off l ∧ Below blk w w' := by
  letI : Inhabited Grd := ⟨⟨(0, 0), by simp [NV.inG]⟩⟩
  have hv := toGrd_val r hr
  generalize toGrd r hr = ra at hv
  have hlen : r.length = ra.toArray.size := by rw [← hv]; simp
  have hH := holdsM_of w blk off ra (by rw [hv]; exact hP)
  have eg := hpf.1
  have hcon := AnyQ.slices_SortFunc_small_sorted Try.sortPl 2 Try.isAgg26 Try.sizeOf26 encM (fun _ => rfl) (fun x v hv => by simp [encM] at hv; rcases hv with rfl | rfl <;> rfl) cfG pf #[] swoM blk off cap ra.toArray w eg
    (cmpLaysM hpf blk off _ w) hH hblk (by omega) Try.hlen
  rw [hlen]
  refine hcon.mono ?_
  rintro e w' ⟨rfl, d', n, os, hp, hs, rfl⟩
  obtain ⟨p1, p2, p3⟩ := hp
  have hsz : d'.size = ra.length := by rw [p1]; simp
  refine ⟨rfl, d'.toList.map (·.1), ?_, ?_, ?_, ?_⟩
  · rw [← hv]
    refine List.Perm.map _ ?_
    have q := p3
    rw [Array.extract_eq_self_of_le (by simp; omega), Array.extract_eq_self_of_le (by simp)] at q
    simpa using q
  · rw [List.pairwise_map, List.pairwise_iff_getElem]
    intro i j hi hj hij
    have hi' : i < d'.size := by simpa using hi
    have hj' : j < d'.size := by simpa using hj
    have q := hs i j (Nat.zero_le _) hij (by simp; omega)
    rw [getElem!_pos d' i hi', getElem!_pos d' j hj', ltM] at q
    simp only [decide_eq_false_iff_not, Int.not_lt] at q
    simp only [Array.getElem_toList]
    exact q
  · refine putM_of _ blk off d'.toList ?_
    exact holdsK_sortWorldK_c encM 2 w blk off ra.toArray d' n os hH hblk (by rw [p1])
  · refine ⟨rfl, rfl, rfl, size_sortWorldK_c _ _ _ _ _ _ _ _, ?_⟩
    intro b hb
    have h1 : b < (putRowK encM 2 (Sort.ahead w n) blk off d').heap.size := by rw [size_putRowK]; exact Nat.lt_trans hb hblk
    show ((putRowK encM 2 (Sort.ahead w n) blk off d').heap ++ os)[b]? = w.heap[b]?
    rw [Array.getElem?_append_left h1]
    show (w.heap.modify blk _)[b]? = _
    rw [Array.getElem?_modify, if_neg (by omega)]

/-- places in the order of made, all different, are in ascending order -/
theorem up_of {l : List Pl} (hi : ∀ p ∈ l, NV.inG p) (hn : l.Nodup) (hs : l.Pairwise fun p q => 0 ≤ cfM q p) : l.Pairwise NV.ltP := by
  induction l with
  | nil => simp
  | cons p l ih =>
    rw [List.pairwise_cons] at hs ⊢
    rw [List.nodup_cons] at hn
    refine ⟨fun q hq => ?_, ih (fun q hq => hi q (by simp [hq])) hn.2 hs.2⟩
    have h1 := hs.1 q hq
    obtain ⟨⟨a1, a2⟩, a3, a4⟩ := hi p (by simp)
    obtain ⟨⟨b1, b2⟩, b3, b4⟩ := hi q (by simp [hq])
    have hne : p ≠ q := fun e => hn.1 (by rw [e]; exact hq)
    have hne' : ¬(p.1 = q.1 ∧ p.2 = q.2) := fun ⟨x, y⟩ => hne (Prod.ext x y)
    simp only [cfM] at h1
    simp only [NV.ltP]
    omega
end Go.Proofs.Ytcalipoknbbaaaa
namespace Go.Proofs.Ytcalipoknbbaaaa
open Go.RowKit
set_option linter.unusedSimpArgs false
set_option linter.unusedVariables false
attribute [local go_sem] slice111

/-- the place of two numbers -/
def spotP (c : B2) : Pl := (((c.1 % 7 : Nat) : Int), ((c.2 % 7 : Nat) : Int))
/-- the places so far, each once -/
def addP (out : List Pl) (p : Pl) : List Pl := if hasP out p then out else out ++ [p]
def spotTo (ls : List B2) (k : Nat) : List Pl := (ls.take k).foldl (fun out c => addP out (spotP c)) []
theorem spotTo_succ (ls : List B2) (k : Nat) (d : B2) (h : k < ls.length) : spotTo ls (k + 1) = addP (spotTo ls k) (spotP (ls.getD k d)) := by
  rw [spotTo, spotTo, List.take_succ_eq_append_getElem h, List.foldl_append, getD_eq ls k d h]; rfl
theorem spotP_in (c : B2) : NV.inG (spotP c) := by
  have h1 := Nat.mod_lt c.1 (show 0 < 7 by decide)
  have h2 := Nat.mod_lt c.2 (show 0 < 7 by decide)
  simp only [NV.inG, spotP]
  omega
theorem spotTo_ok (ls : List B2) : ∀ k, k ≤ ls.length → (spotTo ls k).Nodup ∧ (∀ p ∈ spotTo ls k, NV.inG p) ∧ (spotTo ls k).length ≤ k ∧ (0 < k → spotTo ls k ≠ [])
  | 0, _ => by simp [spotTo]
  | k + 1, h => by
    obtain ⟨h1, h2, h3, h4⟩ := spotTo_ok ls k (by omega)
    rw [spotTo_succ ls k (0, 0) (by omega)]
    have hp := spotP_in (ls.getD k (0, 0))
    generalize spotP (ls.getD k (0, 0)) = p at *
    unfold addP
    cases hh : hasP (spotTo ls k) p with
    | true =>
      rw [if_pos rfl]
      refine ⟨h1, h2, by omega, fun _ e => ?_⟩
      have := (hasP_mem _ _).1 hh
      rw [e] at this
      simp at this
    | false =>
      rw [if_neg (by simp)]
      have hni : p ∉ spotTo ls k := fun hm => by rw [(hasP_mem _ _).2 hm] at hh; simp at hh
      refine ⟨?_, ?_, by simp; omega, by simp⟩
      · rw [List.nodup_append]
        refine ⟨h1, by simp, fun a ha b hb => ?_⟩
        obtain rfl := List.mem_singleton.1 hb
        rintro rfl
        exact hni ha
      · intro q hq
        rcases List.mem_append.1 hq with hq | hq
        · exact h2 q hq
        · obtain rfl := List.mem_singleton.1 hq; exact hp

/-- what made answers -/
def MadePostC (w : World) (e : Ending) (w' : World) : Prop := ∃ l g c, e = .returned (.slice (some ⟨g, 0, none⟩) l.length c) ∧ RowUp l ∧ RowP w' (some ⟨g, 0, none⟩) l ∧ l.length ≤ c ∧ c ≤ maxLen ∧ Below w.heap.size w w'
def MadePost (w : World) (e : Ending) (w' : World) : Prop := ∃ l q c, e = .returned (.slice q l.length c) ∧ RowUp l ∧ RowP w' q l ∧ (q = none → c = 0) ∧ Below w.heap.size w w'

set_option maxRecDepth 100000 in
set_option maxHeartbeats 4000000 in
theorem madesC_any (m : Nat) (ls : List B2) (hm : m < 256) (hls : ls.length = 12) (hok : ∀ x ∈ ls, ok2 x) (w : World) :
    Calls Try.prog 79 #[.agg (spotCells m ls), .int .i64 12, .int .i64 7] w (MadePostC w) := by
  obtain ⟨k, hk⟩ : ∃ k, 1 + m % 12 = k := ⟨_, rfl⟩
  have hr := Nat.mod_lt m (show 0 < 12 by decide)
  have e1 : (m : Int) % 12 = ((m % 12 : Nat) : Int) := by simp
  have e3 : 1 + ((m % 12 : Nat) : Int) = (k : Int) := by omega
  have hk12 : k ≤ 12 := by omega
  have hD := SpotAt.new w m ls
  have d0 : (spotCells m ls)[0]? = some (.int .u8 m) := rfl
  have HD := Lib.hid hD
  have HK := Lib.hid hk
  clear hD
  generalize m % 12 = r at *
  go_enter Try.func79, Try.ntmps79
  go_wp2
  have hb0 : Below w.heap.size w (w.alloc (.cells (spotCells m ls) 113)) := (Below.refl _ _).alloc (Nat.le_refl _) _
  have hz0 : (w.alloc (.cells (spotCells m ls) 113)).heap.size = w.heap.size + 1 := by simp
  have HB0 := Lib.hid hb0
  clear d0 hb0 hz0 e1 e3
  go_loopw [7, 20] (fun v i wr => ∃ j : Nat, j ≤ k ∧ i = .int .i64 j ∧ wr.ownsRow (w.heap.size + 1) 26 2 v (spotTo ls j).length (flatP (spotTo ls j)) ∧ SpotAt wr w.heap.size m ls ∧ Below w.heap.size w wr ∧ w.heap.size < wr.heap.size) (fun _ i _ => k - (intOf i).toNat)
  case atStart => exact ⟨0, Nat.zero_le _, rfl, World.ownsRow_nil _ _ _ _, HD.out, HB0.out, by simp⟩
  case round =>
    obtain ⟨j, hj, rfl, hown, hsp, hbel, hsz⟩ := hrel
    obtain ⟨o1, o2, o3, o4⟩ := spotTo_ok ls j (by omega)
    by_cases hlt : j < k
    · have hjl : j < ls.length := by omega
      have hst := spotTo_succ ls j (0, 0) hjl
      have hc := hok _ (getD_mem ls j (0, 0) hjl)
      obtain ⟨c0, c1⟩ := hsp.at j (0, 0) hjl
      have hpi := spotP_in (ls.getD j (0, 0))
      generalize ls.getD j (0, 0) = x at *
      obtain ⟨x0, x1⟩ := x
      obtain ⟨x2, x3⟩ := hc
      dsimp only at c0 c1 x2 x3
      have m0 : (x0 : Int) % 7 = ((x0 % 7 : Nat) : Int) := by simp
      have m1 : (x1 : Int) % 7 = ((x1 % 7 : Nat) : Int) := by simp
      have y0 := Nat.mod_lt x0 (show 0 < 7 by decide)
      have y1 := Nat.mod_lt x1 (show 0 < 7 by decide)
      generalize spotTo ls j = out at *
      have HO := Lib.hid hown
      have HST := Lib.hid hst
      clear hown hst
      go_wp2
      have f0 : (wr.alloc (.cells #[.int .u8 x0, .int .u8 x1] 110)).cell? ⟨wr.heap.size, 0, none⟩ = some (.int .u8 x0) := by simp
      have f1 : (wr.alloc (.cells #[.int .u8 x0, .int .u8 x1] 110)).cell? ⟨wr.heap.size, 1, none⟩ = some (.int .u8 x1) := by simp
      go_region_held3 (fun W => W.cell? ⟨wr.heap.size, 0, none⟩ = some (.int .u8 x0) ∧ W.cell? ⟨wr.heap.size, 1, none⟩ = some (.int .u8 x1)) (first | exact ⟨f0, f1⟩ | go_keep) (fail)
      have r0 : (IntKind.i64.wrap (x0 : Int)).tmod 7 = ((x0 % 7 : Nat) : Int) := by rw [IntWalk.i64_in _ ⟨by omega, by omega⟩, Int.tmod_eq_emod_of_nonneg (by omega)]; omega
      have r1 : (IntKind.i64.wrap (x1 : Int)).tmod 7 = ((x1 % 7 : Nat) : Int) := by rw [IntWalk.i64_in _ ⟨by omega, by omega⟩, Int.tmod_eq_emod_of_nonneg (by omega)]; omega
      rw [r0, r1]
      have hsp' : spotP (x0, x1) = (((x0 % 7 : Nat) : Int), ((x1 % 7 : Nat) : Int)) := rfl
      have hst := HST.out
      rw [hsp'] at hst hpi
      clear HST r0 r1 m0 m1 f0 f1 c0 c1 hsp'
      generalize ((x0 % 7 : Nat) : Int) = p1 at *
      generalize ((x1 % 7 : Nat) : Int) = p2 at *
      have hb2 : Below wr.heap.size wr ((wr.alloc (.cells #[.int .u8 x0, .int .u8 x1] 110)).alloc (.cells #[.int .i64 p1, .int .i64 p2] 26)).drew := (((Below.refl _ _).alloc (Nat.le_refl _) _).alloc (by simp) _).drew
      have g0 : ((wr.alloc (.cells #[.int .u8 x0, .int .u8 x1] 110)).alloc (.cells #[.int .i64 p1, .int .i64 p2] 26)).drew.cell? ⟨wr.heap.size + 1, 0, none⟩ = some (.int .i64 p1) := by simp
      have g1 : ((wr.alloc (.cells #[.int .u8 x0, .int .u8 x1] 110)).alloc (.cells #[.int .i64 p1, .int .i64 p2] 26)).drew.cell? ⟨wr.heap.size + 1, 1, none⟩ = some (.int .i64 p2) := by simp
      have hzz : ((wr.alloc (.cells #[.int .u8 x0, .int .u8 x1] 110)).alloc (.cells #[.int .i64 p1, .int .i64 p2] 26)).drew.heap.size = wr.heap.size + 2 := by simp
      generalize ((wr.alloc (.cells #[.int .u8 x0, .int .u8 x1] 110)).alloc (.cells #[.int .i64 p1, .int .i64 p2] 26)).drew = W2 at *
      have ho2 := owns_below HO.out (by omega) hb2
      have hs2 := hsp.below hsz hb2
      have hbw := hbel.trans (hb2.mono (by omega))
      have HST := Lib.hid hst
      have HS2 := Lib.hid hs2
      have HO2 := Lib.hid ho2
      have HBW := Lib.hid hbw
      obtain ⟨q, c, rfl, r2⟩ := rowP_of_owns ho2
      have R2 := Lib.hid r2
      clear HO hst hs2 ho2 r2 hsp hbw
      go_wp2_with (first
        | (go_at_call 77; refine (containsPl_any (p1, p2) q c out _ R2.out (by omega)).mono ?_; rintro e w3 ⟨rfl, hb3⟩; have k0 := (hb3.cell (p := ⟨wr.heap.size + 1, 0, none⟩) (by show wr.heap.size + 1 < _; omega)).trans g0; have k1 := (hb3.cell (p := ⟨wr.heap.size + 1, 1, none⟩) (by show wr.heap.size + 1 < _; omega)).trans g1; have HO3 := Lib.hid (owns_below HO2.out (Nat.le_refl _) hb3); have hz3 := hb3.size)
        | (at_builtin; refine app_place _ rfl (.tmp 39) (.tmp 41) rfl (w.heap.size + 1) _ _ (p1, p2) rfl ((HO3.out.alloc _)) w3.heap.size 1 rfl (by simp) (by simp) (by omega) (by simp; omega) ?_; intro v' w4 hown4 hgrow hblk))
      · have hno : hasP out (p1, p2) = false := by first | assumption | simp_all
        have hq : Below (w.heap.size + 1) w3 w4 := ((Below.refl (w.heap.size + 1) w3).alloc (by omega) _).trans (grown_below (HO3.out.alloc _) (by simp; omega) hgrow)
        have hs3 := (HS2.out.below (N := W2.heap.size) (by omega) hb3).below (N := w.heap.size + 1) (by omega) hq
        have hb4 := (HBW.out.trans (hb3.mono (by omega))).trans (hq.mono (by omega))
        have hs4 := hq.size
        have e : addP out (p1, p2) = out ++ [(p1, p2)] := by rw [addP, if_neg (by simp [hno])]
        go_roundw
        case rel => exact ⟨j + 1, by omega, by go_num, by rw [HST.out, e]; exact hown4, hs3, hb4, by omega⟩
        case measure => simp [intOf]; omega
      · have hyes : hasP out (p1, p2) = true := by first | assumption | simp_all
        have hs3 := HS2.out.below (N := W2.heap.size) (by omega) hb3
        have hb4 := HBW.out.trans (hb3.mono (by omega))
        have e : addP out (p1, p2) = out := by rw [addP, if_pos hyes]
        go_roundw
        case rel => exact ⟨j + 1, by omega, by go_num, by rw [HST.out, e]; exact HO3.out, hs3, hb4, by omega⟩
        case measure => simp [intOf]; omega
    · obtain rfl : j = k := by omega
      have hne := o4 (by omega)
      obtain ⟨g, cp, rfl, hg1, hg2, hput, hcp1, hcp2⟩ := putP_of_owns hown hne
      have c85 := fun cap => sortM_gen cmp137 g 0 cap (spotTo ls j) o2 wr hg2 (by omega) hput
      have C85 := Lib.hid c85
      clear hput hown c85
      go_wp2_with (go_at_call 85; refine (C85.out _).mono ?_; rintro e w4 ⟨rfl, l, hperm, hsort, hpl, hb4⟩)
      have hlen := hperm.length_eq
      have hup : RowUp l := by
        refine ⟨fun e => hne (by rw [e] at hperm; exact hperm.symm.eq_nil), by omega, fun p hp => o2 p (hperm.mem_iff.1 hp), ?_⟩
        exact up_of (fun p hp => o2 p (hperm.mem_iff.1 hp)) (hperm.nodup_iff.2 o1) hsort
      have hrow : RowP w4 (some ⟨g, 0, none⟩) l := .inr ⟨g, 0, rfl, Nat.lt_of_lt_of_le hg2 hb4.size, fun i hi => ⟨(hpl i hi).1, (hpl i hi).2.1⟩⟩
      rw [← hlen]
      have HU := Lib.hid hup
      have HRW := Lib.hid hrow
      have HLN := Lib.hid hlen
      have HBF := Lib.hid (hbel.trans (hb4.mono (by omega)))
      clear hup hrow hperm hsort hpl hlen
      go_wp2
      go_ret
      exact ⟨l, g, cp, rfl, HU.out, HRW.out, by rw [HLN.out]; exact hcp1, hcp2, HBF.out⟩
theorem mades_any (m : Nat) (ls : List B2) (hm : m < 256) (hls : ls.length = 12) (hok : ∀ x ∈ ls, ok2 x) (w : World) :
    Calls Try.prog 79 #[.agg (spotCells m ls), .int .i64 12, .int .i64 7] w (MadePost w) :=
  (madesC_any m ls hm hls hok w).mono fun _ _ ⟨l, g, c, h1, h2, h3, _, _, h4⟩ => ⟨l, _, c, h1, h2, h3, by simp, h4⟩
end Go.Proofs.Ytcalipoknbbaaaa
