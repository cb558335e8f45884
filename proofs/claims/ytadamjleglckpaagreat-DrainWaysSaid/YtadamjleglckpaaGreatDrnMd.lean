/- Helpers of the law: made (a hill by numbers). -/
import Derived.Test.YtadamjleglckpaaGreatQa3

namespace Go.Proofs.YtadamjleglckpaaGreat.drn
open Go.RowKit
set_option linter.unusedSimpArgs false
set_option linter.unusedVariables false

theorem bit8 (y : Int) (hy : 0 ≤ y ∧ y ≤ 255) (k : Nat) : bits BinOp.and IntKind.u8 (y / 2 ^ k) 1 = if y.toNat.testBit k then 1 else 0 := by
  obtain ⟨z, rfl⟩ : ∃ z : Nat, y = z := ⟨y.toNat, by omega⟩
  rw [Int.toNat_natCast, Nat.testBit_eq_decide_div_mod_eq]
  have e : ((z : Int) / 2 ^ k) = ((z / 2 ^ k : Nat) : Int) := by simp
  rw [e]
  have hd : z / 2 ^ k ≤ 255 := Nat.le_trans (Nat.div_le_self _ _) (by omega)
  generalize z / 2 ^ k = q at *
  have : ∀ q : Nat, q < 256 → bits BinOp.and IntKind.u8 (q : Int) 1 = if decide (q % 2 = 1) = true then 1 else 0 := by decide +kernel
  exact this q (by omega)
/-- where made stands: the numbers, the hill that is made, and the result's place -/
structure MkAt (w W0 W : World) (n : Nat) (xs : List Int) (cs : List Ch) (v : Value) : Prop where
  row : W.ownsRow (w.heap.size + 3) 51 3 v cs.length (flatT cs)
  var : Cell2 W (w.heap.size + 2) (.int .i64 n) v
  res : Cell2 W (w.heap.size + 1) (.int .i64 0) (.slice none 0 0)
  box : BoxAt W w.heap.size xs
  bel : Below w.heap.size w W
theorem madeTo_len_le (xs : List Int) (n m : Nat) : ∀ (s : Nat), (madeTo xs n m s).length ≤ m := by
  have hr : ∀ (st g : Nat) (l : List Ch), l.length ≤ m → (madeRow xs n m st g l).length ≤ m := by
    intro st g
    induction g with
    | zero => intro l h; exact h
    | succ g ih =>
      intro l h
      have := ih l h
      unfold madeRow
      split
      · rename_i ht
        simp only [Bool.and_eq_true, decide_eq_true_eq] at ht
        rw [List.length_append]; simp; omega
      · exact this
  intro s
  induction s with
  | zero => simp [madeTo]
  | succ s ih => exact hr _ _ _ ih
theorem madeRow_len_le (xs : List Int) (n m : Nat) (st : Nat) : ∀ (g : Nat) (l : List Ch), l.length ≤ m → (madeRow xs n m st g l).length ≤ m := by
  intro g
  induction g with
  | zero => intro l h; exact h
  | succ g ih =>
    intro l h
    have := ih l h
    unfold madeRow
    split
    · rename_i ht
      simp only [Bool.and_eq_true, decide_eq_true_eq] at ht
      rw [List.length_append]; simp; omega
    · exact this

set_option maxRecDepth 100000 in
set_option maxHeartbeats 8000000 in
theorem made_any (xs : List Int) (G m n : Nat) (w : World) (hxl : xs.length = 22) (hxo : ∀ x ∈ xs, 0 ≤ x ∧ x ≤ 255) (hG1 : 1 ≤ G) (hG6 : G ≤ 6) (hm : m ≤ 14) (hn : (n : Int) = 1 + xs.getD 0 0 % (G : Int)) :
    Calls Tryz.prog 20 #[.agg (flat8 xs).toArray, .int .i64 G, .int .i64 m] w (HillPost w n (madeS xs n m)) := by
  have hx0 := hxo _ (getD_mem xs 0 0 (by omega))
  have r0 := Int.emod_nonneg (xs.getD 0 0) (show (G : Int) ≠ 0 by omega)
  have r1 := Int.emod_lt_of_pos (xs.getD 0 0) (show 0 < (G : Int) by omega)
  have n1 : 1 ≤ n := by omega
  have n6 : n ≤ 6 := by omega
  have HB0 := Lib.hid (BoxAt.new w xs 44)
  have c0 := HB0.out.cell 0 (by omega)
  have HBX := Lib.hid ((Below.refl w.heap.size w).alloc (Nat.le_refl _) (.cells (flat8 xs).toArray 44))
  have hs0 : (w.alloc (.cells (flat8 xs).toArray 44)).heap.size = w.heap.size + 1 := by simp
  have HXO := Lib.hid hxo
  have HXL := Lib.hid hxl
  have HM := Lib.hid hm
  have e1 : 1 + xs.getD 0 0 % (G : Int) = (n : Int) := hn.symm
  have hz : ((G : Int) == 0) = false := by simp; omega
  have hz2 : ¬ (G : Int) = 0 := by omega
  clear hxo hxl hn hm
  generalize xs.getD 0 0 = x0 at *
  go_enter Tryz.func20, Tryz.ntmps20
  go_upto_region 1 with fail
  generalize (w.alloc (.cells (flat8 xs).toArray 44)) = W0 at *
  go_wp2
  have HS0 : Hid (MkAt w W0 ((W0.alloc (.cells #[.int .i64 0, .slice none 0 0] 24)).alloc (.cells #[.int .i64 n, .slice none 0 0] 24)) n xs (madeTo xs n m 0) (.slice none 0 0)) := by
    have a1 : Below W0.heap.size W0 (W0.alloc (.cells #[.int .i64 0, .slice none 0 0] 24)) := (Below.refl _ _).alloc (Nat.le_refl _) _
    have a2 : Below (w.heap.size + 2) (W0.alloc (.cells #[.int .i64 0, .slice none 0 0] 24)) ((W0.alloc (.cells #[.int .i64 0, .slice none 0 0] 24)).alloc (.cells #[.int .i64 n, .slice none 0 0] 24)) := (Below.refl _ _).alloc (by simp; omega) _
    refine Lib.hid ⟨World.ownsRow_nil _ _ _ _, Cell2.new _ (w.heap.size + 2) (by simp; omega) _ _ _, (Cell2.new W0 (w.heap.size + 1) hs0 _ _ _).below (by omega) a2, (HB0.out.keep (by omega) a1).keep (by omega) a2, (HBX.out.trans (a1.mono (by omega))).trans (a2.mono (by omega))⟩
  generalize ((W0.alloc (Obj.cells #[Value.int IntKind.i64 0, Value.slice none 0 0] 24)).alloc (Obj.cells #[Value.int IntKind.i64 ↑n, Value.slice none 0 0] 24)) = W1 at *
  clear c0 e1 hz hz2 hs0 hx0 r0 r1
  go_loopw [9] (fun s wr => ∃ j v, j ≤ n ∧ s = .int .i64 ((j : Int) + 1) ∧ Hid (MkAt w W0 wr n xs (madeTo xs n m j) v)) (fun s _ => n + 1 - (intOf s).toNat)
  case atStart => exact ⟨0, _, Nat.zero_le _, rfl, HS0⟩
  case round =>
    obtain ⟨j, v, hj, rfl, HK⟩ := hrel
    by_cases hlt : j < n
    · have i1 : (j : Int) + 1 ≤ (n : Int) := by omega
      go_wp2
      go_loopw [28] (fun i wx => ∃ g u, g ≤ n ∧ i = .int .i64 ((g : Nat) : Int) ∧ Hid (MkAt w W0 wx n xs (madeRow xs n m (j + 1) g (madeTo xs n m j)) u)) (fun i _ => n - (intOf i).toNat)
      case atStart => exact ⟨0, _, Nat.zero_le _, rfl, HK⟩
      case round =>
        obtain ⟨g, u, hg, rfl, HJ⟩ := hrel
        by_cases hgn : g < n
        · have hlen := madeRow_len_le xs n m (j + 1) g _ (madeTo_len_le xs n m j)
          obtain ⟨l, hl⟩ : ∃ l, madeRow xs n m (j + 1) g (madeTo xs n m j) = l := ⟨_, rfl⟩
          rw [hl] at hlen HJ
          obtain ⟨T, hT⟩ : ∃ T, toS n (j + 1) g = T := ⟨_, rfl⟩
          have e2 : ((g : Int) + ((j : Int) + 1)) % ((n : Int) + 1) = (T : Int) := by rw [← hT]; unfold toS; simp
          have q1 : IntKind.i64.wrap ((g : Int) + ((j : Int) + 1)) = (g : Int) + ((j : Int) + 1) := IntWalk.i64_in _ ⟨by omega, by omega⟩
          have q2 : IntKind.i64.wrap ((n : Int) + 1) = (n : Int) + 1 := IntWalk.i64_in _ ⟨by omega, by omega⟩
          have q3 : (((n : Int) + 1) == 0) = false := by simp; omega
          have q4 : ¬ (n : Int) + 1 = 0 := by omega
          have g6 : (g : Int) < 6 := by omega
          have g0 : (0 : Int) ≤ (g : Int) := by omega
          have cg := HJ.out.box.cell (2 + g) (by rw [HXL.out]; omega)
          obtain ⟨v0, v1, v2, v3, v4⟩ := HJ.out.var
          have hyg := HXO.out _ (getD_mem xs (2 + g) 0 (by have := HXL.out; omega))
          have hT2 := Lib.hid hT
          obtain ⟨q5, c5, rfl, _⟩ := rowV_of_owns HJ.out.row (by intro h; rw [List.length_eq_zero_iff] at h; rw [h]; rfl)
          obtain ⟨y, hy⟩ : ∃ y, xs.getD (2 + g) 0 = y := ⟨_, rfl⟩
          rw [hy] at cg hyg
          have hbt := bit8 y hyg ((j + 1) % 8)
          have hst : madeRow xs n m (j + 1) (g + 1) (madeTo xs n m j) = if takesS xs n (j + 1) g && decide (l.length < m) then l ++ [mkCh xs n (j + 1) g l.length] else l := by rw [← hl]; rfl
          have htk : takesS xs n (j + 1) g = (y.toNat.testBit ((j + 1) % 8) && T != g) := by unfold takesS; rw [hT, hy]
          rw [htk] at hst
          clear hT htk
          cases hb : y.toNat.testBit ((j + 1) % 8)
          · rw [hb] at hbt hst
            have b1 : bits BinOp.and IntKind.u8 (y / 2 ^ ((j + 1) % 8)) 1 = 0 := by simpa using hbt
            have HK2 : Hid (MkAt w W0 wr n xs (madeRow xs n m (j + 1) (g + 1) (madeTo xs n m j)) (.slice q5 l.length c5)) := by rw [hst]; simpa using HJ
            clear hst hbt hb hl
            go_wp2
            go_roundw
            case rel => exact ⟨g + 1, _, hgn, by go_num, HK2⟩
            case measure => simp [intOf]; omega
          rw [hb] at hbt hst
          have b1 : bits BinOp.and IntKind.u8 (y / 2 ^ ((j + 1) % 8)) 1 = 1 := by simpa using hbt
          by_cases hTg : T = g
          · have b2 : ((T : Int) != (g : Int)) = false := by simp [hTg]
            have HK2 : Hid (MkAt w W0 wr n xs (madeRow xs n m (j + 1) (g + 1) (madeTo xs n m j)) (.slice q5 l.length c5)) := by rw [hst]; simpa [hTg] using HJ
            clear hst hbt hb hl hTg
            go_wp2
            go_roundw
            case rel => exact ⟨g + 1, _, hgn, by go_num, HK2⟩
            case measure => simp [intOf]; omega
          have b2 : ((T : Int) != (g : Int)) = true := by simp; omega
          by_cases hlm : l.length < m
          · have hst2 : madeRow xs n m (j + 1) (g + 1) (madeTo xs n m j) = l ++ [mkCh xs n (j + 1) g l.length] := by rw [hst]; simp [hTg, hlm]
            obtain ⟨k, hk⟩ : ∃ k, l.length = k := ⟨_, rfl⟩
            have hk14 : k < 14 := by have := HM.out; omega
            have hck := HJ.out.box.cell (8 + k) (by rw [HXL.out]; omega)
            have hc1 := HJ.out.box.cell 1 (by rw [HXL.out]; omega)
            have hy1 := HXO.out _ (getD_mem xs 1 0 (by have := HXL.out; omega))
            have hyk := HXO.out _ (getD_mem xs (8 + k) 0 (by have := HXL.out; omega))
            rw [hk] at hlm v2
            have hmk : mkCh xs n (j + 1) g l.length = ((g : Int), (T : Int), xs.getD (8 + k) 0 % (1 + xs.getD 1 0 % 21)) := by unfold mkCh; rw [hk, hT2.out]
            rw [hmk] at hst2
            generalize xs.getD (8 + k) 0 = yk at *
            generalize xs.getD 1 0 = y1 at *
            have hm1 : 0 ≤ y1 % 21 ∧ y1 % 21 ≤ 20 := by omega
            obtain ⟨dv, hdv⟩ : ∃ dv, 1 + y1 % 21 = dv := ⟨_, rfl⟩
            have hdp : 0 < dv := by omega
            have hr1 := Int.emod_nonneg yk (Int.ne_of_gt hdp)
            have hr2 := Int.emod_lt_of_pos yk hdp
            have f1 : IntKind.i64.wrap y1 = y1 := IntWalk.i64_in _ ⟨by omega, by omega⟩
            have f2 : y1.tmod 21 = dv - 1 := by rw [Int.tmod_eq_emod_of_nonneg (by omega)]; omega
            have f3 : IntKind.i64.wrap (1 + (dv - 1)) = dv := by rw [IntWalk.i64_in _ ⟨by omega, by omega⟩]; omega
            have f4 : IntKind.i64.wrap yk = yk := IntWalk.i64_in _ ⟨by omega, by omega⟩
            have f5 : yk.tmod dv = yk % dv := Int.tmod_eq_emod_of_nonneg (by omega)
            have q7 : (dv == 0) = false := by simp; omega
            have q8 : ¬ dv = 0 := by omega
            have k14 : (k : Int) < 14 := by omega
            have k0 : (0 : Int) ≤ (k : Int) := by omega
            rw [hdv] at hst2
            have HST := Lib.hid hst2
            have HKL := Lib.hid hk
            have HLM := Lib.hid hlm
            have HO := Lib.hid HJ.out.row
            have HMX := Lib.hid HJ.out
            have HTG := Lib.hid hTg
            clear hst hst2 hbt hb hl hdv hmk hTg
            clear hk
            go_upto_region 12 with fail
            refine Until.start (z := 19) (S := fun W => W.cell? ⟨w.heap.size + 1 + 1, 1, none⟩ = some (.slice q5 k c5) ∧ W.cell? ⟨w.heap.size, 8 + k, none⟩ = some (.int .u8 yk) ∧ W.cell? ⟨w.heap.size, 1, none⟩ = some (.int .u8 y1)) (by kernel_rfl) ?_
            have hS : (fun W : World => W.cell? ⟨w.heap.size + 1 + 1, 1, none⟩ = some (.slice q5 k c5) ∧ W.cell? ⟨w.heap.size, 8 + k, none⟩ = some (.int .u8 yk) ∧ W.cell? ⟨w.heap.size, 1, none⟩ = some (.int .u8 y1)) wr.drew := ⟨v2, hck, hc1⟩
            refine Until.taken (i := 0) (v := ?v0) (some 59) rfl rfl rfl (by kernel_rfl) (by kernel_rfl) (by kernel_rfl) (by kernel_rfl) (fun _ _ _ h => h) (Or.inl ⟨by rfl, ?y0⟩) hS ?r0
            case y0 => (intro W hSw; obtain ⟨s0, s1, s2⟩ := hSw; go_simp; try with_reducible rfl)
            simp only [Act.put, List.setIfInBounds_toArray, List.set_cons_zero, List.set_cons_succ]
            refine Until.taken (i := 1) (v := ?v1) (some 60) rfl rfl rfl (by kernel_rfl) (by kernel_rfl) (by kernel_rfl) (by kernel_rfl) (fun _ _ _ h => h) (Or.inl ⟨by rfl, ?y1⟩) hS ?r1
            case y1 => (intro W hSw; obtain ⟨s0, s1, s2⟩ := hSw; go_simp; try with_reducible rfl)
            simp only [Act.put, List.setIfInBounds_toArray, List.set_cons_zero, List.set_cons_succ]
            refine Until.taken (i := 2) (v := ?v2) (some 61) rfl rfl rfl (by kernel_rfl) (by kernel_rfl) (by kernel_rfl) (by kernel_rfl) (fun _ _ _ h => h) (Or.inl ⟨by rfl, ?y2⟩) hS ?r2
            case y2 => (intro W hSw; obtain ⟨s0, s1, s2⟩ := hSw; go_simp; try with_reducible rfl)
            simp only [Act.put, List.setIfInBounds_toArray, List.set_cons_zero, List.set_cons_succ]
            refine Until.taken (i := 3) (v := ?v3) (some 62) rfl rfl rfl (by kernel_rfl) (by kernel_rfl) (by kernel_rfl) (by kernel_rfl) (fun _ _ _ h => h) (Or.inl ⟨by rfl, ?y3⟩) hS ?r3
            case y3 => (intro W hSw; obtain ⟨s0, s1, s2⟩ := hSw; go_simp; try with_reducible rfl)
            simp only [Act.put, List.setIfInBounds_toArray, List.set_cons_zero, List.set_cons_succ]
            refine Until.taken (i := 4) (v := ?v4) (some 63) rfl rfl rfl (by kernel_rfl) (by kernel_rfl) (by kernel_rfl) (by kernel_rfl) (fun _ _ _ h => h) (Or.inl ⟨by rfl, ?y4⟩) hS ?r4
            case y4 => (intro W hSw; obtain ⟨s0, s1, s2⟩ := hSw; go_simp; try with_reducible rfl)
            simp only [Act.put, List.setIfInBounds_toArray, List.set_cons_zero, List.set_cons_succ]
            refine Until.taken (i := 5) (v := ?v5) (some 64) rfl rfl rfl (by kernel_rfl) (by kernel_rfl) (by kernel_rfl) (by kernel_rfl) (fun _ _ _ h => h) (Or.inl ⟨by rfl, ?y5⟩) hS ?r5
            case y5 => (intro W hSw; obtain ⟨s0, s1, s2⟩ := hSw; go_simp; try with_reducible rfl)
            simp only [Act.put, List.setIfInBounds_toArray, List.set_cons_zero, List.set_cons_succ]
            refine Until.taken (i := 6) (v := ?v6) (some 65) rfl rfl rfl (by kernel_rfl) (by kernel_rfl) (by kernel_rfl) (by kernel_rfl) (fun _ _ _ h => h) (Or.inl ⟨by rfl, ?y6⟩) hS ?r6
            case y6 => (intro W hSw; obtain ⟨s0, s1, s2⟩ := hSw; go_simp; try with_reducible rfl)
            simp only [Act.put, List.setIfInBounds_toArray, List.set_cons_zero, List.set_cons_succ]
            refine Until.taken (i := 7) (v := ?v7) (some 66) rfl rfl rfl (by kernel_rfl) (by kernel_rfl) (by kernel_rfl) (by kernel_rfl) (fun _ _ _ h => h) (Or.inl ⟨by rfl, ?y7⟩) hS ?r7
            case y7 => (intro W hSw; obtain ⟨s0, s1, s2⟩ := hSw; go_simp; try with_reducible rfl)
            simp only [Act.put, List.setIfInBounds_toArray, List.set_cons_zero, List.set_cons_succ]
            refine Until.taken (i := 8) (v := ?v8) (some 67) rfl rfl rfl (by kernel_rfl) (by kernel_rfl) (by kernel_rfl) (by kernel_rfl) (fun _ _ _ h => h) (Or.inl ⟨by rfl, ?y8⟩) hS ?r8
            case y8 => (intro W hSw; obtain ⟨s0, s1, s2⟩ := hSw; go_simp; try with_reducible rfl)
            simp only [Act.put, List.setIfInBounds_toArray, List.set_cons_zero, List.set_cons_succ]
            refine Until.taken (i := 9) (v := ?v9) (some 68) rfl rfl rfl (by kernel_rfl) (by kernel_rfl) (by kernel_rfl) (by kernel_rfl) (fun _ _ _ h => h) (Or.inl ⟨by rfl, ?y9⟩) hS ?r9
            case y9 => (intro W hSw; obtain ⟨s0, s1, s2⟩ := hSw; go_simp; try with_reducible rfl)
            simp only [Act.put, List.setIfInBounds_toArray, List.set_cons_zero, List.set_cons_succ]
            refine Until.taken (i := 10) (v := ?v10) (some 69) rfl rfl rfl (by kernel_rfl) (by kernel_rfl) (by kernel_rfl) (by kernel_rfl) (fun _ _ _ h => h) (Or.inl ⟨by rfl, ?y10⟩) hS ?r10
            case y10 => (intro W hSw; obtain ⟨s0, s1, s2⟩ := hSw; go_simp; try with_reducible rfl)
            simp only [Act.put, List.setIfInBounds_toArray, List.set_cons_zero, List.set_cons_succ]
            refine Until.taken (i := 11) (v := ?v11) (some 70) rfl rfl rfl (by kernel_rfl) (by kernel_rfl) (by kernel_rfl) (by kernel_rfl) (fun _ _ _ h => h) (Or.inl ⟨by rfl, ?y11⟩) hS ?r11
            case y11 => (intro W hSw; obtain ⟨s0, s1, s2⟩ := hSw; go_simp; try with_reducible rfl)
            simp only [Act.put, List.setIfInBounds_toArray, List.set_cons_zero, List.set_cons_succ]
            refine Until.taken (i := 12) (v := ?v12) (some 71) rfl rfl rfl (by kernel_rfl) (by kernel_rfl) (by kernel_rfl) (by kernel_rfl) (fun _ _ _ h => h) (Or.inl ⟨by rfl, ?y12⟩) hS ?r12
            case y12 => (intro W hSw; obtain ⟨s0, s1, s2⟩ := hSw; go_simp; try with_reducible rfl)
            simp only [Act.put, List.setIfInBounds_toArray, List.set_cons_zero, List.set_cons_succ]
            refine Until.taken (i := 13) (v := ?v13) (some 72) rfl rfl rfl (by kernel_rfl) (by kernel_rfl) (by kernel_rfl) (by kernel_rfl) (fun _ _ _ h => h) (Or.inl ⟨by rfl, ?y13⟩) hS ?r13
            case y13 => (intro W hSw; obtain ⟨s0, s1, s2⟩ := hSw; go_simp; try with_reducible rfl)
            simp only [Act.put, List.setIfInBounds_toArray, List.set_cons_zero, List.set_cons_succ]
            refine Until.taken (i := 14) (v := ?v14) (some 73) rfl rfl rfl (by kernel_rfl) (by kernel_rfl) (by kernel_rfl) (by kernel_rfl) (fun _ _ _ h => h) (Or.inl ⟨by rfl, ?y14⟩) hS ?r14
            case y14 => (intro W hSw; obtain ⟨s0, s1, s2⟩ := hSw; go_simp; try with_reducible rfl)
            simp only [Act.put, List.setIfInBounds_toArray, List.set_cons_zero, List.set_cons_succ]
            refine Until.taken (i := 15) (v := ?v15) (some 74) rfl rfl rfl (by kernel_rfl) (by kernel_rfl) (by kernel_rfl) (by kernel_rfl) (fun _ _ _ h => h) (Or.inl ⟨by rfl, ?y15⟩) hS ?r15
            case y15 => (intro W hSw; obtain ⟨s0, s1, s2⟩ := hSw; go_simp; try with_reducible rfl)
            simp only [Act.put, List.setIfInBounds_toArray, List.set_cons_zero, List.set_cons_succ]
            have hd : Below wr.heap.size wr wr.drew := (Below.refl _ _).drew
            refine Until.one (i := 16) rfl (by kernel_rfl) (fun K hK => ?_)
            have HK := Lib.hid hK
            clear hK
            go_simp
            have hba : Below wr.heap.size wr (wr.alloc (.cells #[.int .i64 g, .int .i64 T, .int .i64 (yk % dv)] 51)).drew := ((Below.refl _ _).alloc (Nat.le_refl _) _).drew
            obtain ⟨z0, z1, z2, z3, z4⟩ := HMX.out.var
            have zb := HMX.out.box.1
            have l0 := (hba.cell (p := ⟨w.heap.size + 1 + 1, 1, none⟩) z0).trans v2
            have l1 := (hba.cell (p := ⟨w.heap.size, 8 + k, none⟩) zb).trans hck
            have l2 := (hba.cell (p := ⟨w.heap.size, 1, none⟩) zb).trans hc1
            refine HK.out _ _ (fun _ => ⟨l0, l1, l2⟩) ?_
            clear HK K
            try simp only [Act.put, List.getElem_toArray, List.getElem_cons_zero, List.getElem_cons_succ, List.setIfInBounds_toArray, List.set_cons_zero, List.set_cons_succ]
            refine Until.one (i := 17) rfl (by kernel_rfl) (fun K hK => ?_)
            have HK := Lib.hid hK
            clear hK
            have hw1 : w.heap.size + 3 ≤ wr.heap.size := z0
            have HOW := Lib.hid (show wr.ownsRow (w.heap.size + 3) 51 3 (.slice q5 l.length c5) l.length (flatT l) from HO.out)
            refine step_tri _ (by rfl) _ _ (by rfl) (w.heap.size + 3) (.slice q5 k c5) l ((g : Int), (T : Int), yk % dv) (by rfl) (by have := (HOW.out.alloc (.cells #[.int .i64 g, .int .i64 T, .int .i64 (yk % dv)] 51)).drew; rw [HKL.out] at this ⊢; exact this) wr.heap.size 1 (by rfl) (by simp) (by simp) (by simp) (by have := HLM.out; have := HKL.out; have := HM.out; omega) (by simp; omega) ?_
            intro g' c' w3 hown3 hgrow
            rw [show (Value.slice q5 k c5).ownBlock = (Value.slice q5 l.length c5).ownBlock from by cases q5 <;> rfl] at hgrow
            have hq : Below (w.heap.size + 3) wr w3 := grown_drew HO.out hw1 hgrow
            have m0 := (hq.cell (p := ⟨w.heap.size + 1 + 1, 1, none⟩) (show w.heap.size + 1 + 1 < w.heap.size + 3 by omega)).trans v2
            have m1 := (hq.cell (p := ⟨w.heap.size, 8 + k, none⟩) (show w.heap.size < w.heap.size + 3 by omega)).trans hck
            have m2 := (hq.cell (p := ⟨w.heap.size, 1, none⟩) (show w.heap.size < w.heap.size + 3 by omega)).trans hc1
            have m3 := (hq.frozen (p := ⟨w.heap.size + 1 + 1, 1, none⟩) (show w.heap.size + 1 + 1 < w.heap.size + 3 by omega)).trans v4
            have hown4 : w3.ownsRow (w.heap.size + 3) 51 3 (.slice (some ⟨g', 0, none⟩) (l.length + 1) c') (madeRow xs n m (j + 1) (g + 1) (madeTo xs n m j)).length (flatT (madeRow xs n m (j + 1) (g + 1) (madeTo xs n m j))) := by rw [HST.out]; exact hown3
            have HN : Hid (MkAt w W0 (w3.setCell ⟨w.heap.size + 2, 1, none⟩ (.slice (some ⟨g', 0, none⟩) (l.length + 1) c')) n xs (madeRow xs n m (j + 1) (g + 1) (madeTo xs n m j)) (.slice (some ⟨g', 0, none⟩) (l.length + 1) c')) :=
              Lib.hid ⟨ownsRow_setCell hown4 _ _ (show w.heap.size + 2 < w.heap.size + 3 by omega), (HMX.out.var.below (by omega) hq).set1 _, (HMX.out.res.below (by omega) hq).far (by omega) _, (HMX.out.box.keep (show w.heap.size < w.heap.size + 3 by omega) hq).far (by omega) _ _, (HMX.out.bel.trans (hq.mono (by omega))).setCell (p := ⟨w.heap.size + 2, 1, none⟩) (by simp) _⟩
            clear hown3 hown4
            refine HK.out _ _ (fun _ => ⟨m0, m1, m2⟩) ?_
            clear HK K
            simp only [Act.put, List.getElem_toArray, List.getElem_cons_zero, List.getElem_cons_succ, List.setIfInBounds_toArray, List.set_cons_zero, List.set_cons_succ]
            refine Until.one (i := 18) rfl (by kernel_rfl) (fun K hK => ?_)
            have HK := Lib.hid hK
            clear hK
            go_simp
            refine HK.out _ _ (fun _ => ⟨m0, m1, m2⟩) ?_
            clear HK K
            try simp only [Act.put, List.getElem_toArray, List.getElem_cons_zero, List.getElem_cons_succ, List.setIfInBounds_toArray, List.set_cons_zero, List.set_cons_succ]
            refine Until.one (i := 19) rfl (by kernel_rfl) (fun K hK => ?_)
            have HK := Lib.hid hK
            clear hK
            go_simp
            refine HK.out _ _ (fun h => absurd rfl h) ?_
            clear HK K
            try simp only [Act.put, List.getElem_toArray, List.getElem_cons_zero, List.getElem_cons_succ, List.setIfInBounds_toArray, List.set_cons_zero, List.set_cons_succ]
            refine Until.done (by kernel_rfl) ?_
            clear m0 m1 m2 m3 l0 l1 l2 hS z0 z1 z2 z3 z4 v0 v1 v2 v3 v4 hck hc1 f1 f2 f3 f4 f5 q7 q8
            go_wp2
            go_roundw
            case rel => exact ⟨g + 1, _, hgn, by go_num, HN⟩
            case measure => simp [intOf]; omega
          · have hlm2 : ¬ (l.length : Int) < (m : Int) := by omega
            have HK2 : Hid (MkAt w W0 wr n xs (madeRow xs n m (j + 1) (g + 1) (madeTo xs n m j)) (.slice q5 l.length c5)) := by rw [hst]; simpa [hTg, hlm] using HJ
            clear hst hbt hb hl hTg
            go_wp2
            go_roundw
            case rel => exact ⟨g + 1, _, hgn, by go_num, HK2⟩
            case measure => simp [intOf]; omega
        · obtain rfl : g = n := by omega
          go_wp2
          go_roundw
          case rel => exact ⟨j + 1, _, hlt, by go_num, HJ⟩
          case measure => simp [intOf]; omega
    · obtain rfl : j = n := by omega
      have hfin := HK.out.row
      have hcap := own_cap3 hfin
      obtain ⟨q1, cc, rfl, hrow, hn1, hqb⟩ := rowV_of_owns hfin (by intro h; rw [List.length_eq_zero_iff] at h; rw [h]; rfl)
      have HO := Lib.hid hfin
      have HCA := Lib.hid (hcap q1 cc rfl)
      have H1 := Lib.hid HK.out.res
      have H2 := Lib.hid HK.out.bel
      obtain ⟨x0, x1, x2, x3, x4⟩ := HK.out.res
      obtain ⟨y0, y1, y2, y3, y4⟩ := HK.out.var
      have i2 : ¬ ((j : Int) + 1 ≤ (j : Int)) := by omega
      clear hn1 hrow hqb hfin hcap
      go_wp2
      obtain ⟨k0, k1, k2, _, _⟩ := H1.out.set (.int .i64 j) (.slice q1 (madeTo xs j m j).length cc)
      have hbn := (H2.out.setCell (p := ⟨w.heap.size + 1, 0, none⟩) (by simp) (.int .i64 j)).setCell (p := ⟨w.heap.size + 1, 1, none⟩) (by simp) (.slice q1 (madeTo xs j m j).length cc)
      have r3 := ownsRow_setCell (ownsRow_setCell HO.out ⟨w.heap.size + 1, 0, none⟩ (.int .i64 j) (show w.heap.size + 1 < _ by omega)) ⟨w.heap.size + 1, 1, none⟩ (.slice q1 (madeTo xs j m j).length cc) (show w.heap.size + 1 < _ by omega)
      generalize ((wr.setCell ⟨w.heap.size + 1, 0, none⟩ (.int .i64 j)).setCell ⟨w.heap.size + 1, 1, none⟩ (.slice q1 (madeTo xs j m j).length cc)) = W at *
      refine bodyPost_ret (by simp [results, Tryz.results20, go_sem, k1, k2]; try rfl) rfl ?_
      obtain ⟨q2, c2, e2, hrow2, hn2, hqb2⟩ := rowV_of_owns r3 (by intro h; rw [List.length_eq_zero_iff] at h; rw [h]; rfl)
      injection e2 with e2 _ e3
      subst e2; subst e3
      exact ⟨q1, cc, rfl, hrow2, fun a ha => ⟨by have := (hqb2 a ha).1; omega, (hqb2 a ha).2⟩, HCA.out, hbn⟩
end Go.Proofs.YtadamjleglckpaaGreat.drn

