/- Package drain, the walks: slices.Clone at ints; plansFrom, plansOf. -/
import Derived.Test.YtadamjleglckpaaQa3
import Derived.Lib.SliceRun
import Derived.Deep.RegionHeld3
import Derived.Deep.Cut
import Derived.Test.YtadamjleglckpaaQa2
import Derived.Deep.Onto
import Derived.Deep.RegionLaw
import Derived.Deep.MidRow

namespace Go.Proofs.Ytadamjleglckpaa.drn
open Go.RowKit
set_option linter.unusedSimpArgs false
set_option linter.unusedVariables false

/-- appending a whole list of ints to a list of the call's own -/
theorem app_ints (w : World) {ops : Array Oper} {rest : List Oper} {o : Oper} {a : Act} {Q : Exit → Act → World → Prop} (hgd : o.guard = none) (s x : Operand)
    (ho : o.op = .call { callee := .builtin .append, args := #[s, x], argTypes := #[25, 25] }) (base : Nat) (v : Value) (ys xs : List Int) (hs : a.eval s = v)
    (hown : w.ownsRow base 3 1 v ys.length (flatI ys)) (ad : Addr) (c : Nat) (hx : a.eval x = .slice (some ad) xs.length c) (hr : RowV w (some ad) (flatI xs))
    (hl : ys.length + xs.length ≤ 1000000) (hbase : base ≤ w.heap.size)
    (h : ∀ v' w', w'.ownsRow base 3 1 v' (ys ++ xs).length (flatI (ys ++ xs)) → w.grownBy w' v.ownBlock → wpList Try.prog ops Q rest (a.put o.dst v') w') :
    wpList Try.prog ops Q (o :: rest) a w := by
  obtain ⟨i0, hi, hz0, hz1, hz2⟩ := info_parts infoI
  have happ : flatI (ys ++ xs) = flatI ys ++ flatI xs := by simp [flatI]
  refine wpList_append_own w hgd s x 25 ho base 3 i0 _ 1 8 Try.underlying25 hi hz0 hz1 hz2 rfl (by decide) v ys.length (flatI ys) hs hown ad xs.length c (flatI xs) hx (by rw [flatI_length]; omega) ?_ ?_ (by unfold maxLen; omega) (by omega) hbase ?_
  · intro j u hj
    rcases hr with h0 | ⟨b, off, e, _, hc⟩
    · rw [h0] at hj; simp at hj
    · simp only [Option.some.injEq] at e
      subst e
      rw [addr_add_off]
      exact hc j u hj
  · intro u hu
    unfold flatI at hu
    obtain ⟨x, _, rfl⟩ := List.mem_map.1 hu
    rfl
  · intro v' w' h1 h2 _
    refine h v' w' ?_ h2
    rw [happ, List.length_append]
    exact h1
theorem eqNilI (w : World) (a : Option Addr) (n c : Nat) : (binOp .eql 25 (.slice a n c) (.slice none 0 0)).run Try.prog w = .ok (.bool a.isNone) w := Lib.run_eql_slice_nil w 25 3 a n c 0 0 Try.underlying25
attribute [local go_sem] eqNilI
set_option maxRecDepth 100000 in
theorem cloneI_any (q : Option Addr) (c : Nat) (xs : List Int) (w : World) (hr : RowV w q (flatI xs)) (hq : q = none → c = 0) (hl : xs.length ≤ 1000) :
    Calls Try.prog 100 #[.slice q xs.length c] w (RetV w 3 1 xs.length (flatI xs)) := by
  cases q with
  | none =>
    have hx0 : xs = [] := by
      rcases hr with h0 | ⟨b, off, e, _⟩
      · simpa [flatI] using h0
      · cases e
    subst hx0
    have hc := hq rfl
    subst hc
    clear hq hr
    go_enter Try.func100, Try.ntmps100
    go_wp2
    go_ret
    exact ⟨_, rfl, World.ownsRow_nil _ _ _ _, Below.refl _ _⟩
  | some ad =>
    have hb0 : Below w.heap.size w (w.alloc (.cells #[] 3)) := (Below.refl _ _).alloc (Nat.le_refl _) _
    have hr' := hr.below (Nat.le_refl _) hb0
    have hown : (w.alloc (.cells #[] 3)).ownsRow w.heap.size 3 1 (.slice (some ⟨w.heap.size, 0, none⟩) 0 0) ([] : List Int).length (flatI []) :=
      World.ownsRow_made (base := w.heap.size) (e := 3) (size := 1) w #[] 0 (Nat.le_refl _) (by decide) rfl
    have HR := Lib.hid hr'
    have HO := Lib.hid hown
    have HB := Lib.hid hb0
    clear hr hr' hown hb0 hq
    go_enter Try.func100, Try.ntmps100
    go_wp2_with (at_builtin; refine app_ints _ rfl (.tmp 5) (.tmp 6) rfl w.heap.size _ [] xs rfl HO.out ad c rfl HR.out (by simp; omega) (by simp) ?_; intro v' w' hown' hgrow)
    have hb := grown_below HO.out (by simp) hgrow
    go_ret
    exact ⟨v', rfl, hown', HB.out.trans hb⟩

/-- what plansFrom answers, the list being begun -/
def begunS (n : Nat) (cs : List Ch) (lo : Nat) (b : List Int) (s : Nat) : List (List Int) :=
  if s = allS n then (if wetS n (chosenS cs b) = allS n then [b] else []) else plansFrom n cs (cs.length - lo) lo b s
theorem plansFrom_step (n : Nat) (cs : List Ch) (k i : Nat) (b : List Int) (s : Nat) (h : k + 1 + i = cs.length) :
    plansFrom n cs (k + 1) i b s = (if inS s (cs.getD i (0, 0, 0)).1 then [] else begunS n cs (i + 1) (b ++ [(i : Int)]) (s ||| oneS (cs.getD i (0, 0, 0)).1.toNat)) ++ plansFrom n cs k (i + 1) b s := by
  rw [plansFrom, begunS, show cs.length - (i + 1) = k by omega]
  rfl
theorem plansFrom_len (n : Nat) (cs : List Ch) : ∀ (k i : Nat) (b : List Int) (s : Nat), (plansFrom n cs k i b s).length ≤ 2 ^ k
  | 0, _, _, _ => by simp [plansFrom]
  | k + 1, i, b, s => by
    have h1 := plansFrom_len n cs k (i + 1) b s
    have h2 := plansFrom_len n cs k (i + 1) (b ++ [(i : Int)]) (s ||| 1 <<< (cs.getD i (0, 0, 0)).1.toNat)
    have h3 : 1 ≤ 2 ^ k := Nat.one_le_two_pow
    rw [plansFrom, List.length_append, Nat.pow_succ]
    split
    · simp; omega
    · split
      · split <;> simp <;> omega
      · omega
theorem begunS_ne {n : Nat} {cs : List Ch} {lo : Nat} {b : List Int} {s : Nat} (hb : b ≠ []) : ∀ l ∈ begunS n cs lo b s, l ≠ [] := by
  intro l hl
  unfold begunS at hl
  split at hl
  · split at hl
    · simp at hl; rw [hl]; exact hb
    · cases hl
  · obtain ⟨x, r, rfl, _⟩ := plansFrom_head n cs _ _ _ _ l hl
    simp
/-- what has been begun -/
structure Begun (cs : List Ch) (b : List Int) (lo : Nat) : Prop where
  inr : InR cs b
  short : b.length ≤ lo
  fit : lo ≤ cs.length
  from_ : (b = [] ∧ lo = 0) ∨ ∃ b0 x, b = b0 ++ [x] ∧ (lo : Int) = x + 1
theorem Begun.snoc {cs : List Ch} {b : List Int} {lo i : Nat} (h : Begun cs b lo) (h1 : lo ≤ i) (h2 : i < cs.length) : Begun cs (b ++ [(i : Int)]) (i + 1) := by
  obtain ⟨a, c, d, _⟩ := h
  refine ⟨fun x hx => ?_, by simp; omega, by omega, .inr ⟨b, i, rfl, by omega⟩⟩
  rcases List.mem_append.1 hx with hx | hx
  · exact a x hx
  · simp at hx; subst hx; exact ⟨by omega, by omega⟩
theorem inr_len {cs : List Ch} {b : List Int} (h : InR cs b) (n : Nat) (hc : Chs n cs) (hb : b.length ≤ 14) : Chs n (chosenS cs b) := by
  refine ⟨hc.n1, hc.n6, by simpa [chosenS] using hb, fun c hm => ?_⟩
  obtain ⟨i, hi, rfl⟩ := List.mem_map.1 hm
  exact getD_ok hc.ok (by have := h i hi; omega)

set_option maxRecDepth 100000 in
set_option maxHeartbeats 4000000 in
theorem plansFrom_any (n : Nat) (q : Option Addr) (cap : Nat) (cs : List Ch) (hc : Chs n cs) : ∀ (k : Nat) (q3 : Option Addr) (c3 : Nat) (q2 : Option Addr) (c2 lo s : Nat) (b : List Int) (w : World), cs.length - lo = k → Begun cs b lo → s < 2 ^ n →
    RowV w q3 (flatC n cs) → RowV w q2 (flatI b) → (q2 = none → c2 = 0) →
    Calls Try.prog 82 #[hillV n q cs.length cap, .slice q3 cs.length c3, .slice q2 b.length c2, .int .u64 s] w (ManyL w q2 (begunS n cs lo b s)) := by
  intro k
  induction k using Nat.strongRecOn with
  | _ k ih =>
    intro q3 c3 q2 c2 lo s b w hk hbg hs hr3 hr2 hq2
    unfold hillV at *
    have hcm := hc.many
    have hn6 := hc.n6
    have HIH := Lib.hid ih
    have HBG := Lib.hid hbg
    have HS := Lib.hid hs
    have HC := Lib.hid hc
    have HQ2 := Lib.hid hq2
    have hb14 : b.length ≤ 14 := by have := hbg.short; have := hbg.fit; omega
    have hb0 : Below w.heap.size w (w.alloc (.cells #[.int .i64 n, .slice q cs.length cap] 24)) := (Below.refl _ _).alloc (Nat.le_refl _) _
    have hal := allOf_any n q cs.length cap (w.alloc (.cells #[.int .i64 n, .slice q cs.length cap] 24)) hn6
    unfold hillV at hal
    have HAL := Lib.hid hal
    have HB := Lib.hid hb0
    have HR3 := Lib.hid hr3
    have HR2 := Lib.hid hr2
    by_cases hfull : s = allS n
    · have hful2 : ((s : Int) == ((allS n : Nat) : Int)) = true := by simp [hfull]
      have hans : begunS n cs lo b s = if wetS n (chosenS cs b) = allS n then [b] else [] := by rw [begunS, if_pos hfull]
      have hchs := inr_len hbg.inr n hc hb14
      have HCH := Lib.hid hchs
      have hsw : (((wetS n (chosenS cs b) : Nat) : Int) != (s : Int)) = !decide (wetS n (chosenS cs b) = allS n) := by
        rw [hfull]
        by_cases hw : wetS n (chosenS cs b) = allS n
        · simp [hw]
        · have : (wetS n (chosenS cs b) : Int) ≠ (allS n : Int) := by omega
          simp [hw, this]
      by_cases hw : wetS n (chosenS cs b) = allS n
      · rw [hans, if_pos hw]
        have hsw2 : (((wetS n (chosenS cs b) : Nat) : Int) != (s : Int)) = false := by rw [hsw]; simp [hw]
        clear hans hw hsw hchs hfull ih hbg hs hc hq2 hb0 hal hr3 hr2
        go_enter Try.func82, Try.ntmps82
        go_wp2_with (first
          | (go_at_call 49; refine HAL.out.mono ?_; rintro e w1 ⟨rfl, hb1⟩; have hac1 : Below w.heap.size w w1 := HB.out.on hb1)
          | (go_at_call 41; refine (chosen_any n q3 c3 cs q2 c2 b w1 (HR3.out.below (Nat.le_refl _) hac1) (HR2.out.below (Nat.le_refl _) hac1) HBG.out.inr (by omega) hcm).mono ?_; rintro e w4 ⟨v4, rfl, hown4, hb4⟩; obtain ⟨q4, c4, rfl, hrow4, _, _⟩ := rowV_of_owns hown4 (by intro h; rw [List.length_eq_zero_iff] at h; rw [h]; rfl); have hac4 : Below w.heap.size w w4 := hac1.on hb4)
          | (go_at_call 50; refine (drained_any n q4 c4 _ w4 HCH.out hrow4).mono ?_; rintro e w5 ⟨rfl, hb5⟩; have hac5 : Below w.heap.size w w5 := hac4.on hb5))
        have hbA : Below w5.heap.size w5 (w5.alloc (.cells #[.slice q2 b.length c2] 25)) := (Below.refl _ _).alloc (Nat.le_refl _) _
        go_ret
        refine ⟨some ⟨w5.heap.size, 0, none⟩, 1, [.slice q2 b.length c2], rfl, by simp, .inr ⟨w5.heap.size, 0, rfl, by simp, fun i v hi => ?_⟩, fun a ha => ?_, ⟨⟨q2, c2, rfl, HR2.out.below (Nat.le_refl _) (hac5.on hbA), HQ2.out, .inl rfl⟩, trivial⟩, hac5.on hbA, Nat.le_refl _⟩
        · obtain rfl : i = 0 := by
            have := (List.getElem?_eq_some_iff.1 hi).1
            simpa using this
          simp at hi
          subst hi
          simp
        · injection ha with ha
          subst ha
          exact ⟨hac5.size, by simp⟩
      · rw [hans, if_neg hw]
        have hsw2 : (((wetS n (chosenS cs b) : Nat) : Int) != (s : Int)) = true := by rw [hsw]; simp [hw]
        clear hans hw hsw hchs hfull ih hbg hs hc hq2 hb0 hal hr3 hr2
        go_enter Try.func82, Try.ntmps82
        go_wp2_with (first
          | (go_at_call 49; refine HAL.out.mono ?_; rintro e w1 ⟨rfl, hb1⟩; have hac1 : Below w.heap.size w w1 := HB.out.on hb1)
          | (go_at_call 41; refine (chosen_any n q3 c3 cs q2 c2 b w1 (HR3.out.below (Nat.le_refl _) hac1) (HR2.out.below (Nat.le_refl _) hac1) HBG.out.inr (by omega) hcm).mono ?_; rintro e w4 ⟨v4, rfl, hown4, hb4⟩; obtain ⟨q4, c4, rfl, hrow4, _, _⟩ := rowV_of_owns hown4 (by intro h; rw [List.length_eq_zero_iff] at h; rw [h]; rfl); have hac4 : Below w.heap.size w w4 := hac1.on hb4)
          | (go_at_call 50; refine (drained_any n q4 c4 _ w4 HCH.out hrow4).mono ?_; rintro e w5 ⟨rfl, hb5⟩; have hac5 : Below w.heap.size w w5 := hac4.on hb5))
        go_ret
        exact ⟨none, 0, [], rfl, fun _ => ⟨rfl, rfl⟩, .inl rfl, by simp, trivial, hac5, Nat.le_refl _⟩
    · have hful2 : ((s : Int) == ((allS n : Nat) : Int)) = false := beq_eq_false_iff_ne.2 (by omega)
      have hans : begunS n cs lo b s = plansFrom n cs (cs.length - lo) lo b s := by rw [begunS, if_neg hfull]
      rw [hans]
      have HK := Lib.hid hk
      clear hans hfull ih hs hc hq2 hb0 hal hk
      rcases hbg.from_ with ⟨hb, hlo⟩ | ⟨b0, x, hb, hlo⟩
      · have hz2 : decide (0 < b.length) = false := by rw [hb]; rfl
        have hnxt : ((lo + 0 : Nat) : Int) = 0 := by omega
        have NXT := Lib.hid hnxt
        clear hnxt
        have hr2' := hr2
        clear hb hlo hbg
        go_enter Try.func82, Try.ntmps82
        go_wp2_with (go_at_call 49; refine HAL.out.mono ?_; rintro e w1 ⟨rfl, hb1⟩; obtain ⟨hc1, hf1⟩ := bcell hb1; have hac1 : Below w.heap.size w w1 := HB.out.on hb1; have hz1 : w.heap.size < w1.heap.size := (by have := hb1.size; simp at this; omega))
        obtain ⟨d0, d1⟩ : w1.cell? ⟨w.heap.size, 0, none⟩ = some (.int .i64 n) ∧ w1.cell? ⟨w.heap.size, 1, none⟩ = some (.slice q cs.length cap) := ⟨by rw [hc1 _ _ (by simp)]; simp, by rw [hc1 _ _ (by simp)]; simp⟩
        have hr3w := HR3.out.below (Nat.le_refl _) hac1
        have hr2w := HR2.out.below (Nat.le_refl _) hac1
        clear hz2 hful2 hc1 hf1 hb1 hr3 hr2 hr2'
        go_loopw [10, 11] (fun v i wr => ∃ t : Nat, lo + t ≤ cs.length ∧ i = .int .i64 ((lo + t : Nat) : Int) ∧ ∃ ls, ls ++ plansFrom n cs (cs.length - (lo + t)) (lo + t) b s = plansFrom n cs (cs.length - lo) lo b s ∧ OutL w1 wr v ls) (fun _ i _ => cs.length - (intOf i).toNat)
        case atStart => exact ⟨0, HBG.out.fit, by rw [NXT.out], [], rfl, [], World.ownsRow_nil _ _ _ _, fun _ => rfl, trivial, Below.refl _ _⟩
        case round =>
          obtain ⟨t, ht, rfl, ls, hls, vs, ho, hn0, hin, hbel⟩ := hrel
          obtain ⟨i, hi⟩ : ∃ i, lo + t = i := ⟨_, rfl⟩
          rw [hi] at ht hls ⊢
          have HI := Lib.hid hi
          clear hi
          have hzr := hbel.size
          by_cases htm : i < cs.length
          · obtain ⟨m, hm⟩ : ∃ m, cs.length - i = m + 1 := ⟨cs.length - i - 1, by omega⟩
            have hst := plansFrom_step n cs m i b s (by omega)
            rw [hm, hst] at hls
            obtain ⟨b3, off3, rfl, hb3z, g1, g2, g3⟩ := rowC_at hr3w htm (Nat.le_refl _) hbel
            have hok := getD_ok HC.out.ok htm
            generalize cs.getD i (0, 0, 0) = c at g1 g2 g3 hok hls hst
            obtain ⟨x, y, z⟩ := c
            obtain ⟨⟨x0, x1⟩, _⟩ := hok
            dsimp only at *
            obtain ⟨x, rfl⟩ : ∃ j : Nat, x = j := ⟨x.toNat, by omega⟩
            have hx6 : x < 6 := by omega
            have hsl := HS.out
            have hs64 := pow_64 hn6 hsl
            have hoo := oneS_lt hx6
            have hor := or_u s (oneS x) (by omega) (by omega)
            have hsx : s ||| oneS x < 2 ^ n := Nat.or_lt_two_pow hsl (by unfold oneS; rw [Nat.one_shiftLeft]; exact Nat.pow_lt_pow_right (by decide) (by omega))
            rw [Int.toNat_natCast, inS_nat] at hls
            have hxi : (i : Int) < (cs.length : Int) := by omega
            have HM := Lib.hid hm
            have HOR := Lib.hid hor
            have HSX := Lib.hid hsx
            have HO := Lib.hid ho
            have HN0 := Lib.hid hn0
            have HIN := Lib.hid hin
            have hb3w : b3 < wr.heap.size := Nat.lt_of_lt_of_le hb3z hzr
            clear hm hor hsx ho hn0 hin hst hsl g2 g3 x0 x1
            cases hbit : s.testBit x with
            | true =>
              rw [hbit] at hls
              simp only [if_true, List.nil_append] at hls
              have HLS := Lib.hid hls
              have HBIT := Lib.hid hbit
              clear hls hbit
              go_wp2_with (go_at_call 47; refine (in_any x s _ hx6 hs64).mono ?_; rintro e w2 ⟨hin, rfl⟩; rw [HBIT.out] at hin; subst hin)
              go_roundw
              case rel => exact ⟨t + 1, by have := HI.out; omega, by have := HI.out; go_num, ls, by have h1 := HI.out; have h2 := HM.out; have h3 := HLS.out; rw [show cs.length - (lo + (t + 1)) = m by omega, show lo + (t + 1) = i + 1 by omega]; exact h3, vs, HO.out, HN0.out, HIN.out, hbel⟩
              case measure => have := HI.out; simp [intOf]; omega
            | false =>
              rw [hbit, ← List.append_assoc] at hls
              simp only [Bool.false_eq_true, if_false] at hls
              have hlb := congrArg List.length hls
              have htot := plansFrom_len n cs (cs.length - lo) lo b s
              rw [← hlb, List.length_append, List.length_append] at htot
              have hpw : 2 ^ (cs.length - lo) ≤ 16384 := Nat.pow_le_pow_right (by decide) (show cs.length - lo ≤ 14 by omega)
              have hbd : ls.length + (begunS n cs (i + 1) (b ++ [(i : Int)]) (s ||| oneS x)).length ≤ 16384 := by omega
              have hvl := HIN.out.len
              have hdes : s ||| oneS x < 2 ^ n := HSX.out
              have hbg2 := HBG.out.snoc (i := i) (by have := HI.out; omega) htm
              have hcall := fun W q5 c5 h1 h2 h3 => HIH.out m (by have := HM.out; have := HK.out; have := HI.out; omega) (some ⟨b3, off3, none⟩) c3 q5 c5 (i + 1) (s ||| oneS x) (b ++ [(i : Int)]) W (by have := HM.out; omega) hbg2 HSX.out h1 h2 h3
              have hkne : ∀ l ∈ begunS n cs (i + 1) (b ++ [(i : Int)]) (s ||| oneS x), l ≠ [] := begunS_ne (by simp)
              obtain ⟨ks, hks⟩ : ∃ ks, begunS n cs (i + 1) (b ++ [(i : Int)]) (s ||| oneS x) = ks := ⟨_, rfl⟩
              simp only [hks] at hcall hbd hkne hls
              rw [show (b ++ [(i : Int)]).length = b.length + 1 by simp] at hcall
              have HLS := Lib.hid hls
              have HBIT := Lib.hid hbit
              have HCALL := Lib.hid hcall
              have HKNE := Lib.hid hkne
              have HBD := Lib.hid hbd
              have hor := HOR.out
              have f0 := (hbel.cell (p := ⟨w.heap.size, 0, none⟩) hz1).trans d0
              have f1 := (hbel.cell (p := ⟨w.heap.size, 1, none⟩) hz1).trans d1
              have hzw : w.heap.size < wr.heap.size := Nat.lt_of_lt_of_le hz1 hzr
              have hva : some w.heap.size ≠ u10.ownBlock := fun e => by have := (HO.out.lt _ e.symm).1; omega
              clear hls hbit hlb htot hpw hbd hdes hbg2 hcall hkne hks
              go_upto_region 15 with (first
                | (go_at_call 47; refine (in_any x s _ hx6 hs64).mono ?_; rintro e w2 ⟨hin, rfl⟩; rw [HBIT.out] at hin; subst hin)
                | (go_at_call 100; refine (cloneI_any q2 c2 b _ (hr2w.below (Nat.le_refl _) hbel) HQ2.out (by omega)).mono ?_; rintro e wC ⟨vC, rfl, hownC, hbC⟩)
                | (at_builtin; refine app_int _ rfl (.tmp 53) (.tmp 55) rfl wr.heap.size _ b (i : Int) rfl (hownC.alloc _) wC.heap.size 1 rfl (by simp) (by omega) (by have := hbC.size; simp; omega) ?_; intro v5 w5 hown5 hgr5 hbk5; have hb5 : Below wr.heap.size wr w5 := hbC.trans (((Below.refl _ _).alloc hbC.size _).trans (grown_below (hownC.alloc _) (by have := hbC.size; simp; omega) hgr5))))
              obtain ⟨q5, c5, rfl, hrow5, hq5, hqb5⟩ := rowV_of_owns hown5 (by intro h; simp at h)
              have hac5 : Below w1.heap.size w1 w5 := hbel.on hb5
              have e0 := (hb5.cell (p := ⟨w.heap.size, 0, none⟩) hzw).trans f0
              have e1 := (hb5.cell (p := ⟨w.heap.size, 1, none⟩) hzw).trans f1
              have HO5 := Lib.hid (owns_below HO.out (Nat.le_refl _) hb5)
              have hz5 : w.heap.size < w5.heap.size := Nat.lt_of_lt_of_le hzw hb5.size
              rw [show (b ++ [(i : Int)]).length = b.length + 1 by simp]
              clear hownC hown5 hgr5 hbk5 hbC f0 f1
              go_region_held3 (fun W => W.cell? ⟨w.heap.size, 0, none⟩ = some (.int .i64 n) ∧ W.cell? ⟨w.heap.size, 1, none⟩ = some (.slice q cs.length cap)) (first | exact ⟨e0, e1⟩ | exact ⟨j0, j1⟩ | exact ⟨l0, l1⟩ | go_keep)
                (first
                | (go_at_call 48; refine (alone_any x _ hx6).mono ?_; rintro e w6 ⟨rfl, rfl⟩)
                | (go_at_call 82; refine (HCALL.out _ q5 c5 (hr3w.below (Nat.le_refl _) hac5.drew) (hrow5.below (Nat.le_refl _) (Below.refl _ _).drew) hq5).mono ?_; rintro e w7 ⟨q7, c7, vs7, rfl, hnil7, hrow7, hqb7, hin7, hb7', _⟩; have hb7 : Below w5.heap.size w5 w7 := (((Below.refl _ _).drew).on hb7'); have j0 := (hb7.cell (p := ⟨w.heap.size, 0, none⟩) hz5).trans e0; have j1 := (hb7.cell (p := ⟨w.heap.size, 1, none⟩) hz5).trans e1; have hz7 : w.heap.size < w7.heap.size := Nat.lt_of_lt_of_le hz5 hb7.size)
                | (refine step_lists _ (by rfl) _ _ (by rfl) w1.heap.size _ vs vs7 (by rfl) (owns_below HO5.out (Nat.le_refl _) hb7) q7 c7 (by rfl) hnil7 hrow7 (InL.all (by rintro u l ⟨q, c, rfl, _⟩; rfl) hin7) (by have := hin7.len; have := HBD.out; omega) (by have := hac5.size; have := hb7.size; omega) ?_; intro v8 w8 hown8 hgr8 hbk8 hsame8; have l0 := (hgr8.cell_far ⟨w.heap.size, 0, none⟩ hz7 hva).trans j0; have l1 := (hgr8.cell_far ⟨w.heap.size, 1, none⟩ hz7 hva).trans j1)
                | fail)
              have hstep := OutL.step (b := b ++ [(i : Int)]) HO.out HN0.out HIN.out hbel hb5 hqb5 (by simp) hin7 HKNE.out hb7 hown8 hgr8 hbk8 hsame8
              have HSTEP := Lib.hid hstep
              clear hstep hown8 hgr8 hbk8 hsame8 hin7 hrow7 hb7 hb5 e0 e1 j0 j1 l0 l1
              go_wp2
              go_roundw
              case rel => exact ⟨t + 1, by have := HI.out; omega, by have := HI.out; go_num, _, by have h1 := HI.out; have h2 := HM.out; have h3 := HLS.out; rw [show cs.length - (lo + (t + 1)) = m by omega, show lo + (t + 1) = i + 1 by omega]; exact h3, HSTEP.out⟩
              case measure => have := HI.out; simp [intOf]; omega
          · obtain rfl : i = cs.length := by omega
            have hls2 : ls = plansFrom n cs (cs.length - lo) lo b s := by
              rw [Nat.sub_self] at hls
              simpa [plansFrom] using hls
            obtain ⟨q9, c9, e9, hr9, _, hqb9⟩ := rowV_of_owns ho (by intro h; exact List.length_eq_zero_iff.1 h)
            have hno : vs = [] → q9 = none ∧ c9 = 0 := by
              intro h
              have := hn0 h
              rw [this] at e9
              injection e9 with e1 _ e2
              exact ⟨e1.symm, e2.symm⟩
            have hin9 : InL (NewI wr w.heap.size q2) vs ls := InL.mono (fun v l ⟨q, c, e, hr, hn, hx⟩ => ⟨q, c, e, hr, hn, .inr fun a ha => by have := (hx a ha).1; omega⟩) hin
            rw [hls2] at hin9
            have H9 := Lib.hid hin9
            have HR9 := Lib.hid hr9
            have HNO := Lib.hid hno
            have HQ9 := Lib.hid hqb9
            subst e9
            have HCAP := Lib.hid (own_cap ho)
            clear ho hn0 hin hls hls2 hr9 hno hin9 hqb9
            go_wp2
            go_ret
            exact ⟨q9, c9, vs, rfl, HNO.out, HR9.out, fun a ha => ⟨by have := (HQ9.out a ha).1; omega, (HQ9.out a ha).2⟩, H9.out, hac1.on hbel, HCAP.out⟩
      · obtain ⟨hbp, hlast⟩ := last_at hb
        have hz2 : decide (0 < b.length) = true := by simp; omega
        have hw1 : IntKind.i64.wrap ((b.length : Int) - 1) = ((b.length - 1 : Nat) : Int) := by rw [IntWalk.i64_in _ ⟨by omega, by omega⟩]; omega
        have hfit := hbg.fit
        have hw2 : IntKind.i64.wrap (x + 1) = ((lo : Nat) : Int) := by rw [IntWalk.i64_in _ ⟨by omega, by omega⟩]; omega
        have hnxt : ((lo + 0 : Nat) : Int) = ((lo : Nat) : Int) := by omega
        have NXT := Lib.hid hnxt
        obtain ⟨bb, off, hqe, hbz, hcell⟩ := rowI_at hr2 (show b.length - 1 < b.length by omega) (Nat.le_refl _) (Below.refl _ w)
        subst hqe
        rw [hlast] at hcell
        have hlt1 : ((b.length - 1 : Nat) : Int) < (b.length : Int) := by omega
        clear hb hlast hlo hbg hnxt hfit
        go_enter Try.func82, Try.ntmps82
        go_wp2_with (go_at_call 49; refine HAL.out.mono ?_; rintro e w1 ⟨rfl, hb1⟩; obtain ⟨hc1, hf1⟩ := bcell hb1; have hac1 : Below w.heap.size w w1 := HB.out.on hb1; have hz1 : w.heap.size < w1.heap.size := (by have := hb1.size; simp at this; omega); have hcell2 := (hac1.cell (p := ⟨bb, off + (b.length - 1), none⟩) hbz).trans hcell)
        obtain ⟨d0, d1⟩ : w1.cell? ⟨w.heap.size, 0, none⟩ = some (.int .i64 n) ∧ w1.cell? ⟨w.heap.size, 1, none⟩ = some (.slice q cs.length cap) := ⟨by rw [hc1 _ _ (by simp)]; simp, by rw [hc1 _ _ (by simp)]; simp⟩
        have hr3w := HR3.out.below (Nat.le_refl _) hac1
        have hr2w := HR2.out.below (Nat.le_refl _) hac1
        clear hz2 hful2 hc1 hf1 hb1 hr3 hr2 hw1 hw2 hcell hcell2 hlt1
        go_loopw [10, 11] (fun v i wr => ∃ t : Nat, lo + t ≤ cs.length ∧ i = .int .i64 ((lo + t : Nat) : Int) ∧ ∃ ls, ls ++ plansFrom n cs (cs.length - (lo + t)) (lo + t) b s = plansFrom n cs (cs.length - lo) lo b s ∧ OutL w1 wr v ls) (fun _ i _ => cs.length - (intOf i).toNat)
        case atStart => exact ⟨0, HBG.out.fit, by rw [NXT.out], [], rfl, [], World.ownsRow_nil _ _ _ _, fun _ => rfl, trivial, Below.refl _ _⟩
        case round =>
          obtain ⟨t, ht, rfl, ls, hls, vs, ho, hn0, hin, hbel⟩ := hrel
          obtain ⟨i, hi⟩ : ∃ i, lo + t = i := ⟨_, rfl⟩
          rw [hi] at ht hls ⊢
          have HI := Lib.hid hi
          clear hi
          have hzr := hbel.size
          by_cases htm : i < cs.length
          · obtain ⟨m, hm⟩ : ∃ m, cs.length - i = m + 1 := ⟨cs.length - i - 1, by omega⟩
            have hst := plansFrom_step n cs m i b s (by omega)
            rw [hm, hst] at hls
            obtain ⟨b3, off3, rfl, hb3z, g1, g2, g3⟩ := rowC_at hr3w htm (Nat.le_refl _) hbel
            have hok := getD_ok HC.out.ok htm
            generalize cs.getD i (0, 0, 0) = c at g1 g2 g3 hok hls hst
            obtain ⟨x, y, z⟩ := c
            obtain ⟨⟨x0, x1⟩, _⟩ := hok
            dsimp only at *
            obtain ⟨x, rfl⟩ : ∃ j : Nat, x = j := ⟨x.toNat, by omega⟩
            have hx6 : x < 6 := by omega
            have hsl := HS.out
            have hs64 := pow_64 hn6 hsl
            have hoo := oneS_lt hx6
            have hor := or_u s (oneS x) (by omega) (by omega)
            have hsx : s ||| oneS x < 2 ^ n := Nat.or_lt_two_pow hsl (by unfold oneS; rw [Nat.one_shiftLeft]; exact Nat.pow_lt_pow_right (by decide) (by omega))
            rw [Int.toNat_natCast, inS_nat] at hls
            have hxi : (i : Int) < (cs.length : Int) := by omega
            have HM := Lib.hid hm
            have HOR := Lib.hid hor
            have HSX := Lib.hid hsx
            have HO := Lib.hid ho
            have HN0 := Lib.hid hn0
            have HIN := Lib.hid hin
            have hb3w : b3 < wr.heap.size := Nat.lt_of_lt_of_le hb3z hzr
            clear hm hor hsx ho hn0 hin hst hsl g2 g3 x0 x1
            cases hbit : s.testBit x with
            | true =>
              rw [hbit] at hls
              simp only [if_true, List.nil_append] at hls
              have HLS := Lib.hid hls
              have HBIT := Lib.hid hbit
              clear hls hbit
              go_wp2_with (go_at_call 47; refine (in_any x s _ hx6 hs64).mono ?_; rintro e w2 ⟨hin, rfl⟩; rw [HBIT.out] at hin; subst hin)
              go_roundw
              case rel => exact ⟨t + 1, by have := HI.out; omega, by have := HI.out; go_num, ls, by have h1 := HI.out; have h2 := HM.out; have h3 := HLS.out; rw [show cs.length - (lo + (t + 1)) = m by omega, show lo + (t + 1) = i + 1 by omega]; exact h3, vs, HO.out, HN0.out, HIN.out, hbel⟩
              case measure => have := HI.out; simp [intOf]; omega
            | false =>
              rw [hbit, ← List.append_assoc] at hls
              simp only [Bool.false_eq_true, if_false] at hls
              have hlb := congrArg List.length hls
              have htot := plansFrom_len n cs (cs.length - lo) lo b s
              rw [← hlb, List.length_append, List.length_append] at htot
              have hpw : 2 ^ (cs.length - lo) ≤ 16384 := Nat.pow_le_pow_right (by decide) (show cs.length - lo ≤ 14 by omega)
              have hbd : ls.length + (begunS n cs (i + 1) (b ++ [(i : Int)]) (s ||| oneS x)).length ≤ 16384 := by omega
              have hvl := HIN.out.len
              have hdes : s ||| oneS x < 2 ^ n := HSX.out
              have hbg2 := HBG.out.snoc (i := i) (by have := HI.out; omega) htm
              have hcall := fun W q5 c5 h1 h2 h3 => HIH.out m (by have := HM.out; have := HK.out; have := HI.out; omega) (some ⟨b3, off3, none⟩) c3 q5 c5 (i + 1) (s ||| oneS x) (b ++ [(i : Int)]) W (by have := HM.out; omega) hbg2 HSX.out h1 h2 h3
              have hkne : ∀ l ∈ begunS n cs (i + 1) (b ++ [(i : Int)]) (s ||| oneS x), l ≠ [] := begunS_ne (by simp)
              obtain ⟨ks, hks⟩ : ∃ ks, begunS n cs (i + 1) (b ++ [(i : Int)]) (s ||| oneS x) = ks := ⟨_, rfl⟩
              simp only [hks] at hcall hbd hkne hls
              rw [show (b ++ [(i : Int)]).length = b.length + 1 by simp] at hcall
              have HLS := Lib.hid hls
              have HBIT := Lib.hid hbit
              have HCALL := Lib.hid hcall
              have HKNE := Lib.hid hkne
              have HBD := Lib.hid hbd
              have hor := HOR.out
              have f0 := (hbel.cell (p := ⟨w.heap.size, 0, none⟩) hz1).trans d0
              have f1 := (hbel.cell (p := ⟨w.heap.size, 1, none⟩) hz1).trans d1
              have hzw : w.heap.size < wr.heap.size := Nat.lt_of_lt_of_le hz1 hzr
              have hva : some w.heap.size ≠ u10.ownBlock := fun e => by have := (HO.out.lt _ e.symm).1; omega
              clear hls hbit hlb htot hpw hbd hdes hbg2 hcall hkne hks
              go_upto_region 15 with (first
                | (go_at_call 47; refine (in_any x s _ hx6 hs64).mono ?_; rintro e w2 ⟨hin, rfl⟩; rw [HBIT.out] at hin; subst hin)
                | (go_at_call 100; refine (cloneI_any (some ⟨bb, off, none⟩) c2 b _ (hr2w.below (Nat.le_refl _) hbel) HQ2.out (by omega)).mono ?_; rintro e wC ⟨vC, rfl, hownC, hbC⟩)
                | (at_builtin; refine app_int _ rfl (.tmp 53) (.tmp 55) rfl wr.heap.size _ b (i : Int) rfl (hownC.alloc _) wC.heap.size 1 rfl (by simp) (by omega) (by have := hbC.size; simp; omega) ?_; intro v5 w5 hown5 hgr5 hbk5; have hb5 : Below wr.heap.size wr w5 := hbC.trans (((Below.refl _ _).alloc hbC.size _).trans (grown_below (hownC.alloc _) (by have := hbC.size; simp; omega) hgr5))))
              obtain ⟨q5, c5, rfl, hrow5, hq5, hqb5⟩ := rowV_of_owns hown5 (by intro h; simp at h)
              have hac5 : Below w1.heap.size w1 w5 := hbel.on hb5
              have e0 := (hb5.cell (p := ⟨w.heap.size, 0, none⟩) hzw).trans f0
              have e1 := (hb5.cell (p := ⟨w.heap.size, 1, none⟩) hzw).trans f1
              have HO5 := Lib.hid (owns_below HO.out (Nat.le_refl _) hb5)
              have hz5 : w.heap.size < w5.heap.size := Nat.lt_of_lt_of_le hzw hb5.size
              rw [show (b ++ [(i : Int)]).length = b.length + 1 by simp]
              clear hownC hown5 hgr5 hbk5 hbC f0 f1
              go_region_held3 (fun W => W.cell? ⟨w.heap.size, 0, none⟩ = some (.int .i64 n) ∧ W.cell? ⟨w.heap.size, 1, none⟩ = some (.slice q cs.length cap)) (first | exact ⟨e0, e1⟩ | exact ⟨j0, j1⟩ | exact ⟨l0, l1⟩ | go_keep)
                (first
                | (go_at_call 48; refine (alone_any x _ hx6).mono ?_; rintro e w6 ⟨rfl, rfl⟩)
                | (go_at_call 82; refine (HCALL.out _ q5 c5 (hr3w.below (Nat.le_refl _) hac5.drew) (hrow5.below (Nat.le_refl _) (Below.refl _ _).drew) hq5).mono ?_; rintro e w7 ⟨q7, c7, vs7, rfl, hnil7, hrow7, hqb7, hin7, hb7', _⟩; have hb7 : Below w5.heap.size w5 w7 := (((Below.refl _ _).drew).on hb7'); have j0 := (hb7.cell (p := ⟨w.heap.size, 0, none⟩) hz5).trans e0; have j1 := (hb7.cell (p := ⟨w.heap.size, 1, none⟩) hz5).trans e1; have hz7 : w.heap.size < w7.heap.size := Nat.lt_of_lt_of_le hz5 hb7.size)
                | (refine step_lists _ (by rfl) _ _ (by rfl) w1.heap.size _ vs vs7 (by rfl) (owns_below HO5.out (Nat.le_refl _) hb7) q7 c7 (by rfl) hnil7 hrow7 (InL.all (by rintro u l ⟨q, c, rfl, _⟩; rfl) hin7) (by have := hin7.len; have := HBD.out; omega) (by have := hac5.size; have := hb7.size; omega) ?_; intro v8 w8 hown8 hgr8 hbk8 hsame8; have l0 := (hgr8.cell_far ⟨w.heap.size, 0, none⟩ hz7 hva).trans j0; have l1 := (hgr8.cell_far ⟨w.heap.size, 1, none⟩ hz7 hva).trans j1)
                | fail)
              have hstep := OutL.step (b := b ++ [(i : Int)]) HO.out HN0.out HIN.out hbel hb5 hqb5 (by simp) hin7 HKNE.out hb7 hown8 hgr8 hbk8 hsame8
              have HSTEP := Lib.hid hstep
              clear hstep hown8 hgr8 hbk8 hsame8 hin7 hrow7 hb7 hb5 e0 e1 j0 j1 l0 l1
              go_wp2
              go_roundw
              case rel => exact ⟨t + 1, by have := HI.out; omega, by have := HI.out; go_num, _, by have h1 := HI.out; have h2 := HM.out; have h3 := HLS.out; rw [show cs.length - (lo + (t + 1)) = m by omega, show lo + (t + 1) = i + 1 by omega]; exact h3, HSTEP.out⟩
              case measure => have := HI.out; simp [intOf]; omega
          · obtain rfl : i = cs.length := by omega
            have hls2 : ls = plansFrom n cs (cs.length - lo) lo b s := by
              rw [Nat.sub_self] at hls
              simpa [plansFrom] using hls
            obtain ⟨q9, c9, e9, hr9, _, hqb9⟩ := rowV_of_owns ho (by intro h; exact List.length_eq_zero_iff.1 h)
            have hno : vs = [] → q9 = none ∧ c9 = 0 := by
              intro h
              have := hn0 h
              rw [this] at e9
              injection e9 with e1 _ e2
              exact ⟨e1.symm, e2.symm⟩
            have hin9 : InL (NewI wr w.heap.size (some ⟨bb, off, none⟩)) vs ls := InL.mono (fun v l ⟨q, c, e, hr, hn, hx⟩ => ⟨q, c, e, hr, hn, .inr fun a ha => by have := (hx a ha).1; omega⟩) hin
            rw [hls2] at hin9
            have H9 := Lib.hid hin9
            have HR9 := Lib.hid hr9
            have HNO := Lib.hid hno
            have HQ9 := Lib.hid hqb9
            subst e9
            have HCAP := Lib.hid (own_cap ho)
            clear ho hn0 hin hls hls2 hr9 hno hin9 hqb9
            go_wp2
            go_ret
            exact ⟨q9, c9, vs, rfl, HNO.out, HR9.out, fun a ha => ⟨by have := (HQ9.out a ha).1; omega, (HQ9.out a ha).2⟩, H9.out, hac1.on hbel, HCAP.out⟩
end Go.Proofs.Ytadamjleglckpaa.drn

/- Package drain, the walks: Trap, Narrow. -/
namespace Go.Proofs.Ytadamjleglckpaa.drn
open Go.RowKit
set_option linter.unusedSimpArgs false
set_option linter.unusedVariables false

theorem groupsOf_any (n : Nat) (q : Option Addr) (m c : Nat) (w : World) (hn : n ≤ 6) : Calls Try.prog 62 #[hillV n q m c] w (RetV w 82 1 (groupsS n 0).length (flatU (groupsS n 0))) := by
  unfold hillV
  have hb0 : Below w.heap.size w (w.alloc (.cells #[.int .i64 n, .slice q m c] 24)) := (Below.refl _ _).alloc (Nat.le_refl _) _
  have HB := Lib.hid hb0
  have hg := groupsFrom_any n hn n 0 (w.alloc (.cells #[.int .i64 n, .slice q m c] 24)) (by omega)
  have HG := Lib.hid hg
  clear hg hb0
  go_enter Try.func62, Try.ntmps62
  go_wp2_with (go_at_call 85; refine HG.out.mono ?_; rintro e w1 ⟨v1, rfl, hown, hb⟩)
  go_ret
  exact ⟨v1, rfl, own_base hown HB.out.size, HB.out.on hb⟩

/-- a slice of channels in a block, which closures have captured -/
def ChsAt (w : World) (B n : Nat) (cs : List Ch) : Prop := ∃ q cap, B < w.heap.size ∧ w.cell? ⟨B, 0, none⟩ = some (.slice q cs.length cap) ∧ RowV w q (flatC n cs)
theorem ChsAt.below {w w' : World} {B n : Nat} {cs : List Ch} (h : ChsAt w B n cs) {N : Nat} (hN : w.heap.size ≤ N) (hb : Below N w w') : ChsAt w' B n cs := by
  obtain ⟨q, cap, h1, h2, h3⟩ := h
  exact ⟨q, cap, Nat.lt_of_lt_of_le h1 hb.size, (hb.cell (p := ⟨B, 0, none⟩) (Nat.lt_of_lt_of_le h1 hN)).trans h2, h3.below hN hb⟩

theorem Trap1_any (n s B : Nat) (cs : List Ch) (w : World) (hc : Chs n cs) (hs : s < 2 ^ n) (hB : ChsAt w B n cs) :
    Calls Try.prog 73 #[.int .u64 s, .pointer (some ⟨B, 0, none⟩)] w fun e w' => e = .returned (.bool (decide (0 < (leavingS cs s).length))) ∧ Below w.heap.size w w' := by
  obtain ⟨q, cap, h1, h2, h3⟩ := hB
  go_enter Try.func73, Try.ntmps73
  go_wp2_with (go_at_call 60; refine (leaving_any n s q cap cs w hc hs h3).mono ?_; rintro e w5 ⟨v5, rfl, hown5, hb5⟩; obtain ⟨q5, c5, rfl, hrow5, hq5, hqb5⟩ := rowV_of_owns hown5 (by intro h; rw [List.length_eq_zero_iff] at h; rw [h]; rfl))
  go_ret
  exact ⟨ret_bool (by simp), hb5⟩
theorem cmpI_any (a b : Int) (w : World) : Calls Try.prog 64 #[.int .i64 a, .int .i64 b] w fun e w' => (∃ c : Int, e = .returned (.int .i64 c) ∧ (c < 0 ↔ a < b)) ∧ w = w' := by
  by_cases h1 : a < b
  · go_enter Try.func64, Try.ntmps64
    go_wp2
    go_ret
    exact ⟨⟨-1, rfl, by omega⟩, rfl⟩
  · by_cases h2 : b < a
    · go_enter Try.func64, Try.ntmps64
      go_wp2
      go_ret
      exact ⟨⟨1, rfl, by omega⟩, rfl⟩
    · go_enter Try.func64, Try.ntmps64
      go_wp2
      go_ret
      exact ⟨⟨0, rfl, by omega⟩, rfl⟩
theorem Trap2_any (s t : Nat) (w : World) (hs : s < 64) (ht : t < 64) :
    Calls Try.prog 74 #[.int .u64 s, .int .u64 t] w fun e w' => (∃ c : Int, e = .returned (.int .i64 c) ∧ (c < 0 ↔ sizeS s < sizeS t)) ∧ w = w' := by
  go_enter Try.func74, Try.ntmps74
  go_wp2_with (first
    | (go_at_call 75; refine (size_any _ _ ?_).mono ?_; (focus assumption); rintro e w1 ⟨rfl, rfl⟩)
    | (go_at_call 64; refine (cmpI_any _ _ _).mono ?_; rintro e w1 ⟨⟨c, rfl, hc⟩, rfl⟩))
  go_ret
  exact ⟨⟨c, rfl, by rw [hc]; omega⟩, rfl⟩
theorem ent_Trap1 : Enters 73 := fun args w => by kernel_rfl
theorem ent_Trap2 : Enters 74 := fun args w => by kernel_rfl

theorem trap_filter (cs : List Ch) (l : List Nat) : (l.filter fun s => !decide (0 < (leavingS cs s).length)) = l.filter fun s => (leavingS cs s).length == 0 := by
  congr 1
  funext s
  by_cases h : (leavingS cs s).length = 0
  · rw [h]; rfl
  · have : 0 < (leavingS cs s).length := by omega
    simp [this, h]

set_option maxRecDepth 100000 in
set_option maxHeartbeats 2000000 in
theorem Trap_any (n : Int) (q : Option Addr) (cap : Nat) (cs : List Ch) (w : World) (hr : RowV w q (flatT cs)) (hcap : cs.length ≤ cap) :
    Calls Try.prog 26 #[hillV n q cs.length cap] w (RetI w (trapOf n.toNat cs).1 (trapOf n.toNat cs).2) := by
  have hb0 : Below w.heap.size w (w.alloc (.cells #[.int .i64 n, .slice q cs.length cap] 24)) := (Below.refl _ _).alloc (Nat.le_refl _) _
  have c1 := Check_any n q cap cs _ (hr.below (Nat.le_refl _) hb0) hcap
  unfold hillV at c1 ⊢
  have C1 := Lib.hid c1
  have HB := Lib.hid hb0
  clear c1
  by_cases h0 : errD n cs = 0
  · obtain ⟨m, rfl, hchs⟩ := chs_of h0
    have hans : trapOf ((m : Int).toNat) cs = match firstMin sizeS ((groupsS m 0).filter fun s => (leavingS cs s).length == 0) with
        | none => ([], 13)
        | some s => (listS s, 0) := by
      unfold trapOf
      rw [Int.toNat_natCast, if_neg (by rw [h0]; simp)]
      rfl
    obtain ⟨ans, hA⟩ : ∃ ans, trapOf ((m : Int).toNat) cs = ans := ⟨_, rfl⟩
    rw [hA] at hans ⊢
    have HR := Lib.hid hr
    have HCH := Lib.hid hchs
    have hn6 := hchs.n6
    have hgl : (groupsS m 0).length ≤ 1000 := by
      rw [groupsS_len]
      have : 2 ^ m ≤ 64 := Nat.pow_le_pow_right (by decide) hn6
      omega
    have hmem : ∀ s ∈ groupsS m 0, s < 2 ^ m := fun s hs => (mem_groups.1 hs).2
    have HMEM := Lib.hid hmem
    rw [h0] at C1
    have HANS := Lib.hid hans
    clear hans h0 hr hb0 hchs hmem hA
    go_enter Try.func26, Try.ntmps26
    go_wp2_with (first
      | (go_at_call 45; refine C1.out.mono ?_; rintro e w1 ⟨rfl, hb1⟩; obtain ⟨hc1, hf1⟩ := bcell hb1; have hac1 : Below w.heap.size w w1 := HB.out.on hb1; have hz0 : w.heap.size < w1.heap.size := (by have := hb1.size; simp at this; omega))
      | (go_at_call 42; refine (channelsOf_any m q cap cs _ HCH.out (HR.out.below (Nat.le_refl _) hac1)).mono ?_; rintro e wB ⟨vB, rfl, hownB, hbB⟩; obtain ⟨hcB, hfB⟩ := bcell hbB; have hacB : Below w.heap.size w wB := hac1.on hbB; have hzB : w.heap.size < wB.heap.size := Nat.lt_of_lt_of_le hz0 hbB.size; obtain ⟨qB, cB, rfl, hrowB, _, _⟩ := rowV_of_owns hownB (by intro h; rw [List.length_eq_zero_iff] at h; rw [h]; rfl); clear hownB)
      | (go_at_call 62; refine (groupsOf_any m q cs.length cap _ hn6).mono ?_; rintro e wG ⟨vG, rfl, hownG, hbG⟩))
    have hchsC : ChsAt (wB.alloc (.cells #[.slice qB cs.length cB] 75)) wB.heap.size m cs := ⟨qB, cB, by simp, by simp, hrowB.below (Nat.le_refl _) ((Below.refl _ _).alloc (Nat.le_refl _) _)⟩
    have hbC : Below wB.heap.size wB (wB.alloc (.cells #[.slice qB cs.length cB] 75)) := (Below.refl _ _).alloc (Nat.le_refl _) _
    have hts : TestS (wB.alloc (.cells #[.slice qB cs.length cB] 75)).heap.size wG 73 #[.pointer (some ⟨wB.heap.size, 0, none⟩)] (fun s => decide (0 < (leavingS cs s).length)) (groupsS m 0) :=
      fun W s hs hb hB => Trap1_any m s _ cs W HCH.out (HMEM.out s hs) (hchsC.below (Nat.le_refl _) (hbG.trans hb))
    have hdel := deleteS_any _ 73 _ _ ent_Trap1 vG (groupsS m 0) wG hbG.size hts hownG hgl
    rw [trap_filter] at hdel
    have hL64 : ∀ s ∈ (groupsS m 0).filter (fun s => (leavingS cs s).length == 0), s < 64 := fun s hs => pow_64 hn6 (HMEM.out s (List.mem_filter.1 hs).1)
    have hLl : ((groupsS m 0).filter (fun s => (leavingS cs s).length == 0)).length ≤ 1000 := Nat.le_trans (List.length_filter_le _ _) hgl
    generalize (groupsS m 0).filter (fun s => (leavingS cs s).length == 0) = L at hdel hL64 hLl HANS
    have hacG : Below w.heap.size w wG := (hacB.on hbC).on hbG
    have HDEL := Lib.hid hdel
    have HAG := Lib.hid hacG
    have HSG := Lib.hid hbG.size
    have HSC := Lib.hid (hacB.on hbC).size
    clear hdel hts hchsC hownG hbG hbC hrowB hbB hcB hfB hacB hb1 hc1 hf1 hac1 hacG
    go_at_call 72
    refine HDEL.out.mono ?_
    rintro e wD ⟨vD, rfl, hownD, hbD⟩
    dsimp only
    have hacD : Below w.heap.size w wD := HAG.out.trans (hbD.mono HSC.out)
    obtain ⟨qD, cD, rfl, hrowD, _, _⟩ := rowV_of_owns hownD (by intro h; rw [List.length_eq_zero_iff] at h; rw [h]; rfl)
    clear hownD HDEL
    cases L with
    | nil =>
      have ha : ans = ([], 13) := HANS.out
      subst ha
      go_wp2
      go_ret2
      exact ⟨none, 0, rfl, .inl rfl, fun _ => rfl, by simp, hacD⟩
    | cons x xs =>
      have hmin := minS_any wD.heap.size 74 #[] sizeS ent_Trap2 qD cD x xs wD (Nat.le_refl _) (fun W s t hs ht hb hB => (Trap2_any s t W (hL64 s hs) (hL64 t ht)).mono (by rintro e W' ⟨h, rfl⟩; exact ⟨h, Below.refl _ _⟩)) hrowD hLl
      have hx64 : minFrom sizeS x xs < 64 := by
        rcases minFrom_mem sizeS xs x with h | h
        · rw [h]; exact hL64 x (by simp)
        · exact hL64 _ (by simp [h])
      have hne : (((x :: xs).length : Int) == 0) = false := beq_eq_false_iff_ne.2 (by simp; omega)
      have ha : ans = (listS (minFrom sizeS x xs), 0) := by rw [HANS.out, minFrom_first]
      subst ha
      have HMIN := Lib.hid hmin
      obtain ⟨L2, hL2⟩ : ∃ L2, (x :: xs).length = L2 := ⟨_, rfl⟩
      rw [hL2] at hne HMIN ⊢
      clear hmin hL2 hrowD hL64 hLl
      go_wp2_with (first
        | (go_at_call 61; refine HMIN.out.mono ?_; rintro e wE ⟨rfl, hbE⟩)
        | (go_at_call 65; refine (list_any _ _ hx64).mono ?_; rintro e w5 ⟨v5, rfl, hown5, hb5⟩; obtain ⟨q5, c5, rfl, hrow5, hq5, hqb5⟩ := rowV_of_owns hown5 (by intro h; rw [List.length_eq_zero_iff] at h; rw [h]; rfl)))
      go_ret2
      exact ⟨q5, c5, rfl, hrow5, hq5, fun a ha => ⟨Nat.le_trans (hacD.on hbE).size (hqb5 a ha).1, (hqb5 a ha).2⟩, (hacD.on hbE).on hb5⟩
  · have hans : trapOf n.toNat cs = ([], errD n cs) := by
      unfold trapOf
      rw [errD_nat, if_pos h0]
    rw [hans]
    have hb : (errD n cs != 0) = true := by simpa using h0
    clear hans h0 hr hb0
    go_enter Try.func26, Try.ntmps26
    go_wp2_with (go_at_call 45; refine C1.out.mono ?_; rintro e w1 ⟨rfl, hb1⟩)
    go_ret2
    exact ⟨none, 0, rfl, .inl rfl, fun _ => rfl, by simp, HB.out.on hb1⟩
end Go.Proofs.Ytadamjleglckpaa.drn

/- Package drain, the walks: plansOf, cheapestOf, leastOf. -/
namespace Go.Proofs.Ytadamjleglckpaa.drn
open Go.RowKit
set_option linter.unusedSimpArgs false
set_option linter.unusedVariables false

/-- a list in memory, from a block on -/
def ListAt (w : World) (lo : Nat) (v : Value) (l : List Int) : Prop := ∃ q c, v = .slice q l.length c ∧ RowV w q (flatI l) ∧ (q = none → c = 0) ∧ ∀ a, q = some a → lo ≤ a.block ∧ a.block < w.heap.size
theorem ListAt.below {w w' : World} {lo : Nat} {v : Value} {l : List Int} (h : ListAt w lo v l) {N : Nat} (hN : w.heap.size ≤ N) (hb : Below N w w') : ListAt w' lo v l := by
  obtain ⟨q, c, e, h1, h2, h3⟩ := h
  exact ⟨q, c, e, h1.below hN hb, h2, fun a ha => ⟨(h3 a ha).1, Nat.lt_of_lt_of_le (h3 a ha).2 hb.size⟩⟩
/-- lists in memory, from a block on -/
def ListsAt (w : World) (lo : Nat) (q : Option Addr) (vs : List Value) (ls : List (List Int)) : Prop := RowV w q vs ∧ InL (ListAt w lo) vs ls ∧ ∀ a, q = some a → lo ≤ a.block ∧ a.block < w.heap.size
theorem ListsAt.below {w w' : World} {lo : Nat} {q : Option Addr} {vs : List Value} {ls : List (List Int)} (h : ListsAt w lo q vs ls) {N : Nat} (hN : w.heap.size ≤ N) (hb : Below N w w') : ListsAt w' lo q vs ls :=
  ⟨h.1.below hN hb, InL.mono (fun v l h => h.below hN hb) h.2.1, fun a ha => ⟨(h.2.2 a ha).1, Nat.lt_of_lt_of_le (h.2.2 a ha).2 hb.size⟩⟩
theorem ListsAt.lower {w : World} {lo lo' : Nat} {q : Option Addr} {vs : List Value} {ls : List (List Int)} (h : ListsAt w lo q vs ls) (hl : lo' ≤ lo) : ListsAt w lo' q vs ls :=
  ⟨h.1, InL.mono (fun v l ⟨q, c, e, h1, h2, h3⟩ => ⟨q, c, e, h1, h2, fun a ha => ⟨Nat.le_trans hl (h3 a ha).1, (h3 a ha).2⟩⟩) h.2.1, fun a ha => ⟨Nat.le_trans hl (h.2.2 a ha).1, (h.2.2 a ha).2⟩⟩
/-- lists of lists that a call has made -/
def RetL (w : World) (ls : List (List Int)) (e : Ending) (w' : World) : Prop :=
  ∃ q c vs, e = .returned (.slice q ls.length c) ∧ vs.length = ls.length ∧ (ls = [] → q = none ∧ c = 0) ∧ ListsAt w' w.heap.size q vs ls ∧ Below w.heap.size w w' ∧ ls.length ≤ c

theorem begun_plans {n : Nat} (cs : List Ch) (hn : 1 ≤ n) : begunS n cs 0 [] 0 = plansS n cs := by
  have h0 : (0 : Nat) ≠ allS n := by
    unfold allS
    have : 2 ^ 1 ≤ 2 ^ n := Nat.pow_le_pow_right (by decide) hn
    omega
  rw [begunS, if_neg h0]
  rfl
theorem many_lists {w : World} {ls : List (List Int)} {e : Ending} {w' : World} (hne : ∀ l ∈ ls, l ≠ []) (h : ManyL w none ls e w') : RetL w ls e w' := by
  obtain ⟨q, c, vs, e1, h1, h2, h3, h4, h5, h6⟩ := h
  have hlen := h4.len
  refine ⟨q, c, vs, by rw [e1, hlen], hlen, fun h => h1 (List.eq_nil_of_length_eq_zero (by rw [hlen, h]; rfl)), ⟨h2, inL_mem ?_ h4, h3⟩, h5, by omega⟩
  rintro v l hl ⟨q', c', e, hr, hn, hq⟩
  refine ⟨q', c', e, hr, hn, fun a ha => ?_⟩
  rcases hq with hq | hq
  · rw [hq] at ha; cases ha
  · exact ⟨hq a ha, rowI_lt hr (hne l hl) a ha⟩
theorem plansS_ne (n : Nat) (cs : List Ch) : ∀ l ∈ plansS n cs, l ≠ [] := by
  intro l hl
  obtain ⟨x, r, rfl, _⟩ := plansFrom_head n cs _ _ _ _ l hl
  simp
theorem plansS_len {n : Nat} {cs : List Ch} (hc : Chs n cs) : (plansS n cs).length ≤ 16384 :=
  Nat.le_trans (plansFrom_len n cs cs.length 0 [] 0) (Nat.pow_le_pow_right (by decide) (show cs.length ≤ 14 from hc.many))
theorem plansS_in {n : Nat} {cs : List Ch} (hc : Chs n cs) : ∀ l ∈ plansS n cs, InR cs l ∧ l.length ≤ 14 := by
  intro l hl
  obtain ⟨h1, _⟩ := (mem_plansS hc.n1 hc.ok l).1 hl
  have h6 := (Ext.full hc.n6 hc.ok h1).1
  have := hc.n6
  exact ⟨ext_in h1, by omega⟩

set_option maxRecDepth 100000 in
theorem plansOf_any (n : Nat) (q : Option Addr) (cap : Nat) (cs : List Ch) (w : World) (hc : Chs n cs) (hr : RowV w q (flatT cs)) :
    Calls Try.prog 57 #[hillV n q cs.length cap] w (RetL w (plansS n cs)) := by
  have hb0 : Below w.heap.size w (w.alloc (.cells #[.int .i64 n, .slice q cs.length cap] 24)) := (Below.refl _ _).alloc (Nat.le_refl _) _
  have hr0 := hr.below (Nat.le_refl _) hb0
  have hch := channelsOf_any n q cap cs (w.alloc (.cells #[.int .i64 n, .slice q cs.length cap] 24)).drew hc hr0
  have hpl := fun W q3 c3 h3 => plansFrom_any n q cap cs hc (cs.length - 0) q3 c3 none 0 0 0 [] W rfl ⟨(fun x hx => nomatch hx), Nat.zero_le _, Nat.zero_le _, .inl ⟨rfl, rfl⟩⟩ (Nat.two_pow_pos n) h3 (.inl rfl) (fun _ => rfl)
  rw [begun_plans cs hc.n1] at hpl
  unfold hillV at *
  have HCH := Lib.hid hch
  have HPL := Lib.hid hpl
  have HB := Lib.hid hb0
  have HNE := Lib.hid (plansS_ne n cs)
  clear hch hpl hb0 hr hr0
  go_enter Try.func57, Try.ntmps57
  go_wp2
  obtain ⟨c0, c1⟩ : (w.alloc (.cells #[.int .i64 n, .slice q cs.length cap] 24)).cell? ⟨w.heap.size, 0, none⟩ = some (.int .i64 n) ∧ (w.alloc (.cells #[.int .i64 n, .slice q cs.length cap] 24)).cell? ⟨w.heap.size, 1, none⟩ = some (.slice q cs.length cap) := ⟨by simp, by simp⟩
  have hz0 : w.heap.size < (w.alloc (.cells #[.int .i64 n, .slice q cs.length cap] 24)).heap.size := by simp
  obtain ⟨W0, hW0⟩ : ∃ W0, w.alloc (.cells #[.int .i64 n, .slice q cs.length cap] 24) = W0 := ⟨_, rfl⟩
  rw [hW0] at c0 c1 hz0 HB HCH ⊢
  clear hW0
  go_region_held3 (fun W => W.cell? ⟨w.heap.size, 0, none⟩ = some (.int .i64 n) ∧ W.cell? ⟨w.heap.size, 1, none⟩ = some (.slice q cs.length cap)) (first | exact ⟨c0, c1⟩ | exact ⟨d0, d1⟩ | exact ⟨e0, e1⟩ | go_keep)
    (first
    | (go_at_call 42; refine HCH.out.mono ?_; rintro e w1 ⟨v1, rfl, hown1, hb1'⟩; have hb1 : Below W0.heap.size W0 w1 := (((Below.refl _ _).drew).on hb1'); have d0 := (hb1.cell (p := ⟨w.heap.size, 0, none⟩) hz0).trans c0; have d1 := (hb1.cell (p := ⟨w.heap.size, 1, none⟩) hz0).trans c1; obtain ⟨q1, cc1, rfl, hrow1, _, _⟩ := rowV_of_owns hown1 (by intro h; rw [List.length_eq_zero_iff] at h; rw [h]; rfl))
    | (go_at_call 82; refine (HPL.out w1 q1 cc1 hrow1).mono ?_; intro e w2 hmany; obtain ⟨q2, c2, vs, rfl, hvl, hnil, hls, hb2, hcap2⟩ := many_lists HNE.out hmany; have e0 := (hb2.cell (p := ⟨w.heap.size, 0, none⟩) (Nat.lt_of_lt_of_le hz0 hb1.size)).trans d0; have e1 := (hb2.cell (p := ⟨w.heap.size, 1, none⟩) (Nat.lt_of_lt_of_le hz0 hb1.size)).trans d1)
    | fail)
  go_wp2
  go_ret
  exact ⟨q2, c2, vs, rfl, hvl, hnil, hls.lower (Nat.le_trans HB.out.size hb1.size), (HB.out.on hb1).on hb2, hcap2⟩

/-- the first with the least number, from one that is there -/
def minG {α : Type} (f : α → Nat) (m : α) : List α → α
  | [] => m
  | x :: r => minG f (if f x < f m then x else m) r
theorem minG_first {α : Type} (f : α → Nat) (x : α) (r : List α) : firstMin f (x :: r) = some (minG f x r) := by
  have h := keepMin_all f (x :: r)
  rw [List.foldl_cons] at h
  have e : ∀ (l : List α) (m : α), l.foldl (keepMin f) (some m) = some (minG f m l) := by
    intro l
    induction l with
    | nil => intro m; rfl
    | cons y l ih =>
      intro m
      rw [List.foldl_cons]
      show List.foldl (keepMin f) (keepMin f (some m) y) l = some (minG f (if f y < f m then y else m) l)
      rw [← ih]
      congr 1
      unfold keepMin
      by_cases hlt : f y < f m
      · simp [hlt]
      · simp [hlt]
  rw [← h]
  exact e r x
theorem minG_mem {α : Type} (f : α → Nat) : ∀ (r : List α) (m : α), minG f m r = m ∨ minG f m r ∈ r
  | [], m => .inl rfl
  | x :: r, m => by
    unfold minG
    by_cases h : f x < f m
    · rw [if_pos h]
      rcases minG_mem f r x with h | h
      · exact .inr (by rw [h]; simp)
      · exact .inr (by simp [h])
    · rw [if_neg h]
      rcases minG_mem f r m with h | h
      · exact .inl h
      · exact .inr (by simp [h])

/-- a hill in a block, which a closure has captured -/
def HillAt (w : World) (B n : Nat) (q : Option Addr) (cap : Nat) (cs : List Ch) : Prop := B < w.heap.size ∧ w.cell? ⟨B, 0, none⟩ = some (.int .i64 n) ∧ w.cell? ⟨B, 1, none⟩ = some (.slice q cs.length cap) ∧ RowV w q (flatT cs)
theorem HillAt.below {w w' : World} {B n : Nat} {q : Option Addr} {cap : Nat} {cs : List Ch} (h : HillAt w B n q cap cs) {N : Nat} (hN : w.heap.size ≤ N) (hb : Below N w w') : HillAt w' B n q cap cs :=
  ⟨Nat.lt_of_lt_of_le h.1 hb.size, (hb.cell (p := ⟨B, 0, none⟩) (Nat.lt_of_lt_of_le h.1 hN)).trans h.2.1, (hb.cell (p := ⟨B, 1, none⟩) (Nat.lt_of_lt_of_le h.1 hN)).trans h.2.2.1, h.2.2.2.below hN hb⟩

set_option maxRecDepth 100000 in
set_option maxHeartbeats 1000000 in
theorem cheapest1_any (n B : Nat) (q : Option Addr) (cap : Nat) (cs : List Ch) (v1 v2 : Value) (l1 l2 : List Int) (lo : Nat) (w : World) (hc : Chs n cs) (hB : HillAt w B n q cap cs) (h1 : ListAt w lo v1 l1) (h2 : ListAt w lo v2 l2)
    (hi1 : InR cs l1) (hi2 : InR cs l2) (hl1 : l1.length ≤ 1000) (hl2 : l2.length ≤ 1000) :
    Calls Try.prog 88 #[v1, v2, .pointer (some ⟨B, 0, none⟩)] w fun e w' => (∃ c : Int, e = .returned (.int .i64 c) ∧ (c < 0 ↔ (costS cs l1).toNat < (costS cs l2).toNat)) ∧ Below w.heap.size w w' := by
  obtain ⟨q1, k1, rfl, hr1, _, _⟩ := h1
  obtain ⟨q2, k2, rfl, hr2, _, _⟩ := h2
  obtain ⟨z0, c0, c1, hr⟩ := hB
  have p1 := costS_bd hc.ok l1
  have p2 := costS_bd hc.ok l2
  have hco := fun W (qq : Option Addr) kk l hb hrr hii hll => costOf_any n q cap cs qq kk l W hc (hr.below (Nat.le_refl _) hb) hrr hii hll
  unfold hillV at hco
  have HCO := Lib.hid hco
  have HP := Lib.hid (And.intro p1.1 p2.1)
  have HR1 := Lib.hid hr1
  have HR2 := Lib.hid hr2
  have HI1 := Lib.hid hi1
  have HI2 := Lib.hid hi2
  clear hco p1 p2 hr1 hr2 hi1 hi2 hr
  go_enter Try.func88, Try.ntmps88
  go_wp2
  go_region_held3 (fun W => W.cell? ⟨B, 0, none⟩ = some (.int .i64 n) ∧ W.cell? ⟨B, 1, none⟩ = some (.slice q cs.length cap)) (first | exact ⟨c0, c1⟩ | exact ⟨d0, d1⟩ | exact ⟨e0, e1⟩ | go_keep)
    (first
    | (go_at_call 36; have hcc := HCO.out w.drew q1 k1 l1 (Below.refl _ _).drew (HR1.out.below (Nat.le_refl _) (Below.refl _ _).drew) HI1.out hl1; (with_reducible refine hcc.mono ?_); rintro e w1 ⟨rfl, hb1'⟩; have hb1 : Below w.heap.size w w1 := (((Below.refl _ _).drew).on hb1'); have d0 := (hb1.cell (p := ⟨B, 0, none⟩) z0).trans c0; have d1 := (hb1.cell (p := ⟨B, 1, none⟩) z0).trans c1)
    | (go_at_call 36; have hcc := HCO.out w1 q2 k2 l2 hb1 (HR2.out.below (Nat.le_refl _) hb1) HI2.out hl2; (with_reducible refine hcc.mono ?_); rintro e w2 ⟨rfl, hb2⟩; have hac2 : Below w.heap.size w w2 := hb1.on hb2; have e0 := (hac2.cell (p := ⟨B, 0, none⟩) z0).trans c0; have e1 := (hac2.cell (p := ⟨B, 1, none⟩) z0).trans c1)
    | (go_at_call 64; refine (cmpI_any _ _ _).mono ?_; rintro e w3 ⟨⟨c, rfl, hcc⟩, rfl⟩)
    | fail)
  go_wp2
  go_ret
  exact ⟨⟨c, rfl, by rw [hcc]; have := HP.out; omega⟩, hac2⟩
theorem ent_cheapest1 : Enters 88 := fun args w => by kernel_rfl
end Go.Proofs.Ytadamjleglckpaa.drn

/- Package drain, the walks: slices.MinFunc at plans, cheapestOf, leastOf, Count. -/
namespace Go.Proofs.Ytadamjleglckpaa.drn
open Go.RowKit
set_option linter.unusedSimpArgs false
set_option linter.unusedVariables false

/-- plans of a hill -/
def GoodL (cs : List Ch) (ls : List (List Int)) : Prop := ∀ l ∈ ls, InR cs l ∧ l.length ≤ 1000
theorem goodL_plans {n : Nat} {cs : List Ch} (hc : Chs n cs) : GoodL cs (plansS n cs) := fun l hl => by
  have := plansS_in hc l hl
  exact ⟨this.1, by omega⟩
theorem GoodL.sub {cs : List Ch} {ls ks : List (List Int)} (h : GoodL cs ls) (hs : ∀ k ∈ ks, k ∈ ls) : GoodL cs ks := fun k hk => h k (hs k hk)

set_option maxRecDepth 100000 in
set_option maxHeartbeats 1000000 in
theorem minL_any (n B : Nat) (q : Option Addr) (cap : Nat) (cs : List Ch) (lo : Nat) (qp : Option Addr) (cp : Nat) (vs : List Value) (p : List Int) (ps : List (List Int)) (w : World) (hc : Chs n cs) (hB : HillAt w B n q cap cs)
    (hls : ListsAt w lo qp vs (p :: ps)) (hg : GoodL cs (p :: ps)) (hl : (p :: ps).length ≤ 100000) :
    Calls Try.prog 87 #[.slice qp (p :: ps).length cp, .func (.func 88) #[] #[.pointer (some ⟨B, 0, none⟩)]] w fun e w' =>
      ∃ v, e = .returned v ∧ ListAt w' lo v (minG (fun p => (costS cs p).toNat) p ps) ∧ Below w.heap.size w w' := by
  obtain ⟨ys, hys⟩ : ∃ ys, p :: ps = ys := ⟨_, rfl⟩
  have hlen : ys.length = ps.length + 1 := by rw [← hys]; rfl
  have h0 : ys.getD 0 [] = p := by rw [← hys]; rfl
  have hdr : ys.drop 1 = ps := by rw [← hys]; rfl
  rw [hys] at hls hg hl ⊢
  have hvl := hls.2.1.len
  obtain ⟨v0, hv0, hl0⟩ := InL.get 0 hls.2.1 (by omega)
  have hat := fun W v1 v2 l1 l2 hb k1 k2 m1 m2 => cheapest1_any n B q cap cs v1 v2 l1 l2 lo W hc (hB.below (Nat.le_refl _) hb) k1 k2 (hg l1 m1).1 (hg l2 m2).1 (hg l1 m1).2 (hg l2 m2).2
  have hrow := hls.1
  have hinl := hls.2.1
  obtain ⟨b, off, rfl, hb, hcell⟩ := hrow.here (k := 0) (by omega)
  have h1 := hcell 0 v0 hv0
  rw [Nat.add_zero] at h1
  rw [h0] at hl0
  have HAT := Lib.hid hat
  have HDR := Lib.hid hdr
  have HCELL := Lib.hid hcell
  have HINL := Lib.hid hinl
  have HVL := Lib.hid hvl
  have HL0 := Lib.hid hl0
  have hpm : p ∈ ys := by rw [← hys]; simp
  have HPM := Lib.hid hpm
  have hpos : (0 : Int) < (ys.length : Int) := by omega
  have hpos1 : ¬ (ys.length : Int) < 1 := by omega
  clear hat hys hlen h0 hdr hrow hinl hcell hvl hl0 hv0 hpm hls hB hg
  go_enter Try.func87, Try.ntmps87
  go_wp2
  clear hpos1 hpos h1
  go_loopw [5, 6] (fun m i wr => ∃ (k : Nat) (l : List Int), 1 ≤ k ∧ k ≤ ys.length ∧ i = .int .i64 k ∧ ListAt wr lo m l ∧ l ∈ ys ∧ minG (fun p => (costS cs p).toNat) l (ys.drop k) = minG (fun p => (costS cs p).toNat) p ps ∧ Below w.heap.size w wr) (fun _ i _ => ys.length - (intOf i).toNat)
  case atStart => exact ⟨1, p, Nat.le_refl _, by have := HPM.out; exact List.length_pos_of_mem this, rfl, HL0.out, HPM.out, by rw [HDR.out], Below.refl _ _⟩
  case round =>
    obtain ⟨k, l, hk1, hk, rfl, hat, hm, hmin, hbel⟩ := hrel
    by_cases hlt : k < ys.length
    · obtain ⟨v2, hv2, hl2⟩ := InL.get k HINL.out hlt
      have h2 := (hbel.cell (p := ⟨b, off + k, none⟩) hb).trans (HCELL.out k v2 hv2)
      have hst : ys.drop k = ys.getD k [] :: ys.drop (k + 1) := by rw [List.drop_eq_getElem_cons hlt, getD_eq ys k [] hlt]
      rw [hst] at hmin
      have hsm := getD_mem ys k [] hlt
      generalize ys.getD k [] = l2 at hl2 hmin hsm
      have hcc := HAT.out wr v2 u5 l2 l hbel (hl2.below (Nat.le_refl _) hbel) hat hsm hm
      have hlk : (k : Int) < (ys.length : Int) := by omega
      have HMIN := Lib.hid hmin
      have HCC := Lib.hid hcc
      have HM := Lib.hid hm
      have HSM := Lib.hid hsm
      have HL2 := Lib.hid hl2
      have HA := Lib.hid hat
      clear hmin hcc hst hm hsm hv2 hl2 hat
      go_upto_region 8 with (go_at_call 88; refine HCC.out.mono ?_; rintro e w2 ⟨⟨c, rfl, hcI⟩, hb2⟩; have HCI := Lib.hid hcI; clear hcI; have h3 := (hb2.cell (p := ⟨b, off + k, none⟩) (Nat.lt_of_lt_of_le hb hbel.size)).trans h2)
      · have hneg : c < 0 := by assumption
        have hlf := HCI.out.1 hneg
        have HLF := Lib.hid hlf
        have hbz : b < w2.heap.size := Nat.lt_of_lt_of_le hb (hbel.on hb2).size
        clear hlf
        go_wp2
        go_roundw
        case rel => exact ⟨k + 1, l2, by omega, hlt, by go_num, HL2.out.below (Nat.le_refl _) (hbel.on hb2), HSM.out, by have h := HMIN.out; rw [minG, if_pos HLF.out] at h; exact h, hbel.on hb2⟩
        case measure => simp [intOf]; omega
      · have hneg : ¬ c < 0 := by first | assumption | omega
        have hlf : ¬ (costS cs l2).toNat < (costS cs l).toNat := fun h => hneg (HCI.out.2 h)
        refine ⟨⟨k + 1, l, by omega, hlt, by go_num, HA.out.below (Nat.le_refl _) hb2, HM.out, by have h := HMIN.out; rw [minG, if_neg hlf] at h; exact h, hbel.on hb2⟩, by simp [intOf]; omega⟩
    · obtain rfl : k = ys.length := by omega
      have hfin : l = minG (fun p => (costS cs p).toNat) p ps := by rw [← hmin, List.drop_length]; rfl
      have HA := Lib.hid hat
      have HF := Lib.hid hfin
      clear hat hfin hmin hm
      go_wp2
      go_ret
      exact ⟨_, rfl, by rw [← HF.out]; exact HA.out, hbel⟩

set_option maxRecDepth 100000 in
theorem cheapestOf_any (n : Nat) (q : Option Addr) (cap : Nat) (cs : List Ch) (lo : Nat) (qp : Option Addr) (cp : Nat) (vs : List Value) (p : List Int) (ps : List (List Int)) (w : World) (hc : Chs n cs) (hr : RowV w q (flatT cs))
    (hls : ListsAt w lo qp vs (p :: ps)) (hg : GoodL cs (p :: ps)) (hl : (p :: ps).length ≤ 100000) :
    Calls Try.prog 66 #[hillV n q cs.length cap, .slice qp (p :: ps).length cp] w fun e w' =>
      ∃ v, e = .returned v ∧ ListAt w' lo v (minG (fun p => (costS cs p).toNat) p ps) ∧ Below w.heap.size w w' := by
  have hb0 : Below w.heap.size w (w.alloc (.cells #[.int .i64 n, .slice q cs.length cap] 24)) := (Below.refl _ _).alloc (Nat.le_refl _) _
  have hat : HillAt (w.alloc (.cells #[.int .i64 n, .slice q cs.length cap] 24)) w.heap.size n q cap cs := ⟨by simp, by simp, by simp, hr.below (Nat.le_refl _) hb0⟩
  have hm := minL_any n w.heap.size q cap cs lo qp cp vs p ps _ hc hat (hls.below (Nat.le_refl _) hb0) hg hl
  unfold hillV
  have HM := Lib.hid hm
  have HB := Lib.hid hb0
  obtain ⟨L, hL⟩ : ∃ L, (p :: ps).length = L := ⟨_, rfl⟩
  rw [hL] at HM ⊢
  clear hm hb0 hat hr hls hg hl hL
  go_enter Try.func66, Try.ntmps66
  go_wp2_with (go_at_call 87; refine HM.out.mono ?_; rintro e w1 ⟨v1, rfl, hl1, hb1⟩)
  go_ret
  exact ⟨v1, rfl, hl1, HB.out.on hb1⟩

set_option maxRecDepth 100000 in
theorem leastOf_any (n : Nat) (q : Option Addr) (cap : Nat) (cs : List Ch) (lo : Nat) (qp : Option Addr) (cp : Nat) (vs : List Value) (p : List Int) (ps : List (List Int)) (w : World) (hc : Chs n cs) (hr : RowV w q (flatT cs))
    (hls : ListsAt w lo qp vs (p :: ps)) (hg : GoodL cs (p :: ps)) (hl : (p :: ps).length ≤ 100000) :
    Calls Try.prog 56 #[hillV n q cs.length cap, .slice qp (p :: ps).length cp] w fun e w' => e = .returned (.int .i64 (leastS cs (p :: ps))) ∧ Below w.heap.size w w' := by
  have hans : leastS cs (p :: ps) = costS cs (minG (fun p => (costS cs p).toNat) p ps) := by rw [leastS, cheapS, minG_first]
  have hmg : minG (fun p => (costS cs p).toNat) p ps ∈ p :: ps := by
    rcases minG_mem (fun p => (costS cs p).toNat) ps p with h | h
    · rw [h]; simp
    · simp [h]
  obtain ⟨hgi, hgl⟩ := hg _ hmg
  have hb0 : Below w.heap.size w (w.alloc (.cells #[.int .i64 n, .slice q cs.length cap] 24)) := (Below.refl _ _).alloc (Nat.le_refl _) _
  have hm := cheapestOf_any n q cap cs lo qp cp vs p ps (w.alloc (.cells #[.int .i64 n, .slice q cs.length cap] 24)).drew hc (hr.below (Nat.le_refl _) hb0.drew) (hls.below (Nat.le_refl _) hb0.drew) hg hl
  generalize minG (fun p => (costS cs p).toNat) p ps = mp at hans hm hgi hgl
  have hco := fun W (qq : Option Addr) kk hb hrr => costOf_any n q cap cs qq kk mp W hc (hr.below (Nat.le_refl _) hb) hrr hgi hgl
  unfold hillV at *
  rw [hans]
  have HM := Lib.hid hm
  have HB := Lib.hid hb0
  have HCO := Lib.hid hco
  obtain ⟨L, hL⟩ : ∃ L, (p :: ps).length = L := ⟨_, rfl⟩
  rw [hL] at HM ⊢
  clear hm hb0 hr hls hg hl hL hco hans hmg
  go_enter Try.func56, Try.ntmps56
  go_wp2
  obtain ⟨c0, c1⟩ : (w.alloc (.cells #[.int .i64 n, .slice q cs.length cap] 24)).cell? ⟨w.heap.size, 0, none⟩ = some (.int .i64 n) ∧ (w.alloc (.cells #[.int .i64 n, .slice q cs.length cap] 24)).cell? ⟨w.heap.size, 1, none⟩ = some (.slice q cs.length cap) := ⟨by simp, by simp⟩
  have hz0 : w.heap.size < (w.alloc (.cells #[.int .i64 n, .slice q cs.length cap] 24)).heap.size := by simp
  obtain ⟨W0, hW0⟩ : ∃ W0, w.alloc (.cells #[.int .i64 n, .slice q cs.length cap] 24) = W0 := ⟨_, rfl⟩
  rw [hW0] at c0 c1 hz0 HB HM ⊢
  clear hW0
  go_region_held3 (fun W => W.cell? ⟨w.heap.size, 0, none⟩ = some (.int .i64 n) ∧ W.cell? ⟨w.heap.size, 1, none⟩ = some (.slice q cs.length cap)) (first | exact ⟨c0, c1⟩ | exact ⟨d0, d1⟩ | exact ⟨e0, e1⟩ | go_keep)
    (first
    | (go_at_call 66; refine HM.out.mono ?_; rintro e w1 ⟨v1, rfl, ⟨q1, cc1, rfl, hr1, _, _⟩, hb1'⟩; have hb1 : Below W0.heap.size W0 w1 := (((Below.refl _ _).drew).on hb1'); have d0 := (hb1.cell (p := ⟨w.heap.size, 0, none⟩) hz0).trans c0; have d1 := (hb1.cell (p := ⟨w.heap.size, 1, none⟩) hz0).trans c1)
    | (go_at_call 36; have hcc := HCO.out w1 q1 cc1 (HB.out.on hb1) hr1; (with_reducible refine hcc.mono ?_); rintro e w2 ⟨rfl, hb2⟩; have e0 := (hb2.cell (p := ⟨w.heap.size, 0, none⟩) (Nat.lt_of_lt_of_le hz0 hb1.size)).trans d0; have e1 := (hb2.cell (p := ⟨w.heap.size, 1, none⟩) (Nat.lt_of_lt_of_le hz0 hb1.size)).trans d1)
    | fail)
  go_wp2
  go_ret
  exact ⟨rfl, (HB.out.on hb1).on hb2⟩

/-- a number, and an error -/
def RetK (w : World) (k err : Int) (e : Ending) (w' : World) : Prop := e = .returned (.tuple #[.int .i64 k, .int .i64 err]) ∧ Below w.heap.size w w'

set_option maxRecDepth 100000 in
theorem Count_any (n : Int) (q : Option Addr) (cap : Nat) (cs : List Ch) (w : World) (hr : RowV w q (flatT cs)) (hcap : cs.length ≤ cap) :
    Calls Try.prog 17 #[hillV n q cs.length cap] w (RetK w (countOf n.toNat cs).1 (countOf n.toNat cs).2) := by
  have hb0 : Below w.heap.size w (w.alloc (.cells #[.int .i64 n, .slice q cs.length cap] 24)) := (Below.refl _ _).alloc (Nat.le_refl _) _
  have c1 := Check_any n q cap cs _ (hr.below (Nat.le_refl _) hb0) hcap
  have HR := Lib.hid hr
  have HB := Lib.hid hb0
  by_cases h0 : errD n cs = 0
  · obtain ⟨m, rfl, hchs⟩ := chs_of h0
    have hans : countOf ((m : Int).toNat) cs = (((plansS m cs).length : Int), 0) := by
      unfold countOf
      rw [Int.toNat_natCast, if_neg (by rw [h0]; simp)]
    rw [hans]
    have hpl := fun W hb => plansOf_any m q cap cs W hchs (hr.below (Nat.le_refl _) hb)
    unfold hillV at *
    rw [h0] at c1
    have C1 := Lib.hid c1
    have HPL := Lib.hid hpl
    clear hans h0 hr hb0 hchs c1 hpl
    go_enter Try.func17, Try.ntmps17
    go_wp2_with (first
      | (go_at_call 45; refine C1.out.mono ?_; rintro e w1 ⟨rfl, hb1⟩; obtain ⟨hc1, hf1⟩ := bcell hb1; have hac1 : Below w.heap.size w w1 := HB.out.on hb1; have hz0 : w.heap.size < w1.heap.size := (by have := hb1.size; simp at this; omega))
      | (go_at_call 57; refine (HPL.out w1 hac1).mono ?_; rintro e w2 ⟨q2, c2, vs, rfl, hvl, hnil, hls, hb2, _⟩))
    go_ret2
    exact ⟨rfl, hac1.on hb2⟩
  · have hans : countOf n.toNat cs = (0, errD n cs) := by
      unfold countOf
      rw [errD_nat, if_pos h0]
    rw [hans]
    have hb : (errD n cs != 0) = true := by simpa using h0
    unfold hillV at *
    have C1 := Lib.hid c1
    clear hans h0 hr hb0 c1
    go_enter Try.func17, Try.ntmps17
    go_wp2_with (go_at_call 45; refine C1.out.mono ?_; rintro e w1 ⟨rfl, hb1⟩)
    go_ret2
    exact ⟨rfl, HB.out.on hb1⟩
end Go.Proofs.Ytadamjleglckpaa.drn

/- Package drain, the walks: Cost, Way. -/
namespace Go.Proofs.Ytadamjleglckpaa.drn
open Go.RowKit
set_option linter.unusedSimpArgs false
set_option linter.unusedVariables false

theorem valid_plan {n : Int} {cs : List Ch} {l : List Int} (h : validOf n.toNat cs l = 0) : ∃ m : Nat, n = m ∧ Chs m cs ∧ Plan m cs l ∧ errD n cs = 0 := by
  have h0 : errD n cs = 0 := by
    apply Classical.byContradiction
    intro hne
    unfold validOf at h
    rw [errD_nat, if_pos hne] at h
    exact hne h
  obtain ⟨m, rfl, hc⟩ := chs_of h0
  rw [Int.toNat_natCast] at h
  exact ⟨m, rfl, hc, (validOf_iff h0 l).1 h, h0⟩
theorem plan_in {n : Nat} {cs : List Ch} (hc : Chs n cs) {l : List Int} (h : Plan n cs l) : InR cs l ∧ l.length ≤ 6 := by
  have h6 := (Ext.full hc.n6 hc.ok h.1).1
  have := hc.n6
  exact ⟨ext_in h.1, by omega⟩
def costR (n : Nat) (cs : List Ch) (l : List Int) : Int × Int := if validOf n cs l ≠ 0 then (0, validOf n cs l) else (costS cs l, 0)

set_option maxRecDepth 100000 in
theorem Cost_any (n : Int) (q : Option Addr) (cap : Nat) (cs : List Ch) (q2 : Option Addr) (c2 : Nat) (l : List Int) (w : World) (hr : RowV w q (flatT cs)) (hcap : cs.length ≤ cap) (hr2 : RowV w q2 (flatI l)) (hl : l.length ≤ 1000000) :
    Calls Try.prog 7 #[hillV n q cs.length cap, .slice q2 l.length c2] w (RetK w (costR n.toNat cs l).1 (costR n.toNat cs l).2) := by
  have hb0 : Below w.heap.size w (w.alloc (.cells #[.int .i64 n, .slice q cs.length cap] 24)) := (Below.refl _ _).alloc (Nat.le_refl _) _
  have c1 := Valid_any n q cap cs q2 c2 l _ (hr.below (Nat.le_refl _) hb0) hcap (hr2.below (Nat.le_refl _) hb0) hl
  have HB := Lib.hid hb0
  by_cases h0 : validOf n.toNat cs l = 0
  · obtain ⟨m, rfl, hchs, hpl, _⟩ := valid_plan h0
    obtain ⟨hin, hl6⟩ := plan_in hchs hpl
    have hans : costR ((m : Int).toNat) cs l = (costS cs l, 0) := by rw [costR, if_neg (fun h => h h0)]
    rw [hans]
    have hco := fun W hb => costOf_any m q cap cs q2 c2 l W hchs (hr.below (Nat.le_refl _) hb) (hr2.below (Nat.le_refl _) hb) hin (by omega)
    unfold hillV at *
    rw [h0] at c1
    have C1 := Lib.hid c1
    have HCO := Lib.hid hco
    clear hans h0 hr hr2 hb0 hchs c1 hco hin hpl
    go_enter Try.func7, Try.ntmps7
    go_wp2_with (first
      | (go_at_call 12; refine C1.out.mono ?_; rintro e w1 ⟨rfl, hb1⟩; obtain ⟨hc1, hf1⟩ := bcell hb1; have hac1 : Below w.heap.size w w1 := HB.out.on hb1; have hz0 : w.heap.size < w1.heap.size := (by have := hb1.size; simp at this; omega))
      | (go_at_call 36; refine (HCO.out w1 hac1).mono ?_; rintro e w2 ⟨rfl, hb2⟩))
    go_ret2
    exact ⟨rfl, hac1.on hb2⟩
  · have hans : costR n.toNat cs l = (0, validOf n.toNat cs l) := by rw [costR, if_pos h0]
    rw [hans]
    have hb : (validOf n.toNat cs l != 0) = true := by simpa using h0
    generalize validOf n.toNat cs l = err at c1 hb ⊢
    unfold hillV at *
    have C1 := Lib.hid c1
    clear hans h0 hr hr2 hb0 c1
    go_enter Try.func7, Try.ntmps7
    go_wp2_with (go_at_call 12; refine C1.out.mono ?_; rintro e w1 ⟨rfl, hb1⟩)
    go_ret2
    exact ⟨rfl, HB.out.on hb1⟩

set_option maxRecDepth 100000 in
set_option maxHeartbeats 1000000 in
theorem Way_any (n : Int) (q : Option Addr) (cap : Nat) (cs : List Ch) (q2 : Option Addr) (c2 : Nat) (l : List Int) (g : Int) (w : World) (hr : RowV w q (flatT cs)) (hcap : cs.length ≤ cap) (hr2 : RowV w q2 (flatI l)) (hl : l.length ≤ 1000000) :
    Calls Try.prog 9 #[hillV n q cs.length cap, .slice q2 l.length c2, .int .i64 g] w (RetI w (wayOf n.toNat cs l g).1 (wayOf n.toNat cs l g).2) := by
  have hb0 : Below w.heap.size w (w.alloc (.cells #[.int .i64 n, .slice q cs.length cap] 24)) := (Below.refl _ _).alloc (Nat.le_refl _) _
  have c1 := Valid_any n q cap cs q2 c2 l _ (hr.below (Nat.le_refl _) hb0) hcap (hr2.below (Nat.le_refl _) hb0) hl
  have HB := Lib.hid hb0
  by_cases h0 : validOf n.toNat cs l = 0
  · obtain ⟨m, rfl, hchs, hpl, _⟩ := valid_plan h0
    obtain ⟨hin, hl6⟩ := plan_in hchs hpl
    have heach := plan_each hchs.ok hpl
    have hok2 : ∀ c ∈ chosenS cs l, ChOk m c := heach.1
    have hreach := (wet_ways hchs.n6 heach).1 hpl.2.2
    have hcl : (chosenS cs l).length ≤ 14 := by simp [chosenS]; omega
    have hans : wayOf ((m : Int).toNat) cs l g = if !isGal m g then ([], 2) else (wayF m (chosenS cs l) m g, 0) := by
      unfold wayOf
      rw [if_neg (fun h => h h0), Int.toNat_natCast]
    have hhg := fun W => hasGallery_any m g q cs.length cap W
    simp only [isGal_eq] at hhg
    rw [hans]
    obtain ⟨gg, hgg⟩ : ∃ gg, isGal m g = gg := ⟨_, rfl⟩
    rw [hgg]
    simp only [hgg] at hhg
    unfold hillV at *
    rw [h0] at c1
    have C1 := Lib.hid c1
    have HHG := Lib.hid hhg
    cases gg with
    | false =>
      clear hans h0 hr hr2 hb0 hchs c1 hhg hin hpl heach hok2 hreach hcl hgg
      go_enter Try.func9, Try.ntmps9
      go_wp2_with (first
        | (go_at_call 12; refine C1.out.mono ?_; rintro e w1 ⟨rfl, hb1⟩; obtain ⟨hc1, hf1⟩ := bcell hb1; have hac1 : Below w.heap.size w w1 := HB.out.on hb1; have hz0 : w.heap.size < w1.heap.size := (by have := hb1.size; simp at this; omega))
        | (go_at_call 38; refine (HHG.out w1).mono ?_; rintro e w2 ⟨rfl, hb2⟩))
      go_ret2
      exact ⟨none, 0, rfl, .inl rfl, fun _ => rfl, by simp, hac1.on hb2⟩
    | true =>
      have hg2 := (isGal_iff _ _).1 hgg
      obtain ⟨g, rfl⟩ : ∃ i : Nat, g = i := ⟨g.toNat, by omega⟩
      have hgm : g < m := by omega
      have hpo := fun W => placeOf_any m g q cs.length cap W
      have hch := fun W hb => channelsOf_any m q cap cs W hchs (hr.below (Nat.le_refl _) hb)
      have hco := fun W q3 c3 hb h3 => chosen_any m q3 c3 cs q2 c2 l W h3 (hr2.below (Nat.le_refl _) hb) hin (by omega) hchs.many
      have hwf := fun W q4 c4 h4 => wayFrom_any m g q4 c4 (chosenS cs l) W hchs.n6 hcl hgm heach hreach h4
      obtain ⟨T, hT⟩ : ∃ T, plV m g = .iface T (.int .i64 g) := ⟨_, rfl⟩
      have hpo2 : ∀ W, Calls Try.prog 40 #[.agg #[.int .i64 m, .slice q cs.length cap], .int .i64 g] W fun e w' => e = .returned (.iface T (.int .i64 g)) ∧ Below W.heap.size W w' := fun W => by rw [← hT]; exact hpo W
      rw [hT] at hwf
      unfold hillV at *
      show Calls _ _ _ _ (RetI w (wayF m (chosenS cs l) m g) 0)
      generalize wayF m (chosenS cs l) m g = wy at hwf ⊢
      generalize chosenS cs l = chs at hco hwf
      have HPO := Lib.hid hpo2
      have HCH := Lib.hid hch
      have HCO := Lib.hid hco
      have HWF := Lib.hid hwf
      clear hans h0 hr hr2 hb0 hchs c1 hhg hin hpl heach hok2 hreach hcl hgg hpo hpo2 hch hco hwf hT
      go_enter Try.func9, Try.ntmps9
      go_upto_region 6 with (first
        | (go_at_call 12; refine C1.out.mono ?_; rintro e w1 ⟨rfl, hb1⟩; obtain ⟨hc1, hf1⟩ := bcell hb1; have hac1 : Below w.heap.size w w1 := HB.out.on hb1; have hz0 : w.heap.size < w1.heap.size := (by have := hb1.size; simp at this; omega))
        | (go_at_call 38; refine (HHG.out w1).mono ?_; rintro e w2 ⟨rfl, hb2⟩; have hac2 : Below w.heap.size w w2 := hac1.on hb2))
      obtain ⟨d0, d1⟩ : w1.cell? ⟨w.heap.size, 0, none⟩ = some (.int .i64 m) ∧ w1.cell? ⟨w.heap.size, 1, none⟩ = some (.slice q cs.length cap) := ⟨by rw [hc1 _ _ (by simp)]; simp, by rw [hc1 _ _ (by simp)]; simp⟩
      have e0 := (hb2.cell (p := ⟨w.heap.size, 0, none⟩) hz0).trans d0
      have e1 := (hb2.cell (p := ⟨w.heap.size, 1, none⟩) hz0).trans d1
      have hz2 : w.heap.size < w2.heap.size := Nat.lt_of_lt_of_le hz0 hb2.size
      clear hc1 hf1 d0 d1
      go_region_held3 (fun W => W.cell? ⟨w.heap.size, 0, none⟩ = some (.int .i64 m) ∧ W.cell? ⟨w.heap.size, 1, none⟩ = some (.slice q cs.length cap)) (first | exact ⟨e0, e1⟩ | exact ⟨f0, f1⟩ | exact ⟨g0, g1⟩ | exact ⟨j0, j1⟩ | exact ⟨k0, k1⟩ | go_keep)
        (first
        | (go_at_call 40; refine (HPO.out _).mono ?_; rintro e w3 ⟨rfl, hb3'⟩; have hb3 : Below w2.heap.size w2 w3 := (((Below.refl _ _).drew).on hb3'); have f0 := (hb3.cell (p := ⟨w.heap.size, 0, none⟩) hz2).trans e0; have f1 := (hb3.cell (p := ⟨w.heap.size, 1, none⟩) hz2).trans e1; have hac3 : Below w.heap.size w w3 := hac2.on hb3; have hz3 : w.heap.size < w3.heap.size := Nat.lt_of_lt_of_le hz2 hb3.size)
        | (go_at_call 42; refine (HCH.out w3 hac3).mono ?_; rintro e w4 ⟨v4, rfl, hown4, hb4⟩; have g0 := (hb4.cell (p := ⟨w.heap.size, 0, none⟩) hz3).trans f0; have g1 := (hb4.cell (p := ⟨w.heap.size, 1, none⟩) hz3).trans f1; have hac4 : Below w.heap.size w w4 := hac3.on hb4; have hz4 : w.heap.size < w4.heap.size := Nat.lt_of_lt_of_le hz3 hb4.size; obtain ⟨q4, c4, rfl, hrow4, _, _⟩ := rowV_of_owns hown4 (by intro h; rw [List.length_eq_zero_iff] at h; rw [h]; rfl))
        | (go_at_call 41; refine (HCO.out w4 q4 c4 hac4 hrow4).mono ?_; rintro e w5 ⟨v5, rfl, hown5, hb5⟩; have j0 := (hb5.cell (p := ⟨w.heap.size, 0, none⟩) hz4).trans g0; have j1 := (hb5.cell (p := ⟨w.heap.size, 1, none⟩) hz4).trans g1; have hac5 : Below w.heap.size w w5 := hac4.on hb5; have hz5 : w.heap.size < w5.heap.size := Nat.lt_of_lt_of_le hz4 hb5.size; obtain ⟨q5, c5, rfl, hrow5, _, _⟩ := rowV_of_owns hown5 (by intro h; rw [List.length_eq_zero_iff] at h; rw [h]; rfl))
        | (go_at_call 39; refine (HWF.out w5 q5 c5 hrow5).mono ?_; rintro e w6 ⟨v6, rfl, hown6, hb6⟩; have k0 := (hb6.cell (p := ⟨w.heap.size, 0, none⟩) hz5).trans j0; have k1 := (hb6.cell (p := ⟨w.heap.size, 1, none⟩) hz5).trans j1; obtain ⟨q6, c6, rfl, hrow6, hq6, hqb6⟩ := rowV_of_owns hown6 (by intro h; rw [List.length_eq_zero_iff] at h; rw [h]; rfl))
        | fail)
      clear e0 e1 f0 f1 g0 g1 j0 j1 k0 k1
      go_wp2
      go_ret2
      exact ⟨q6, c6, rfl, hrow6, hq6, fun a ha => ⟨Nat.le_trans hac5.size (hqb6 a ha).1, (hqb6 a ha).2⟩, hac5.on hb6⟩
  · have hans : wayOf n.toNat cs l g = ([], validOf n.toNat cs l) := by rw [wayOf, if_pos h0]
    rw [hans]
    have hb : (validOf n.toNat cs l != 0) = true := by simpa using h0
    generalize validOf n.toNat cs l = err at c1 hb ⊢
    unfold hillV at *
    have C1 := Lib.hid c1
    clear hans h0 hr hr2 hb0 c1
    go_enter Try.func9, Try.ntmps9
    go_wp2_with (go_at_call 12; refine C1.out.mono ?_; rintro e w1 ⟨rfl, hb1⟩)
    go_ret2
    exact ⟨none, 0, rfl, .inl rfl, fun _ => rfl, by simp, HB.out.on hb1⟩
end Go.Proofs.Ytadamjleglckpaa.drn

/- A kit for the law's walks: variables of two cells, numbers of eight bits in a block, what stays in memory; appends of channels. -/
namespace Go.Proofs.Ytadamjleglckpaa.drn
open Go.RowKit
set_option linter.unusedSimpArgs false
set_option linter.unusedVariables false
def Cell2 (W : World) (B : Nat) (a b : Value) : Prop :=
  B < W.heap.size ∧ W.cell? ⟨B, 0, none⟩ = some a ∧ W.cell? ⟨B, 1, none⟩ = some b ∧ W.frozen? ⟨B, 0, none⟩ = false ∧ W.frozen? ⟨B, 1, none⟩ = false
theorem Cell2.below {W W' : World} {B : Nat} {a b : Value} (h : Cell2 W B a b) {N : Nat} (hN : B < N) (hb : Below N W W') : Cell2 W' B a b := by
  obtain ⟨h0, h1, h2, h4, h5⟩ := h
  exact ⟨Nat.lt_of_lt_of_le h0 hb.size, (hb.cell (p := ⟨B, 0, none⟩) hN).trans h1, (hb.cell (p := ⟨B, 1, none⟩) hN).trans h2, (hb.frozen (p := ⟨B, 0, none⟩) hN).trans h4, (hb.frozen (p := ⟨B, 1, none⟩) hN).trans h5⟩
theorem Cell2.set {W : World} {B : Nat} {a b : Value} (h : Cell2 W B a b) (x y : Value) : Cell2 ((W.setCell ⟨B, 0, none⟩ x).setCell ⟨B, 1, none⟩ y) B x y := by
  obtain ⟨h0, h1, h2, h4, h5⟩ := h
  have n01 : (⟨B, 0, none⟩ : Addr) ≠ ⟨B, 1, none⟩ := by simp
  refine ⟨by simp only [World.size_setCell]; exact h0, ?_, ?_, ?_, ?_⟩
  · rw [World.cell?_setCell_other (h := n01.symm), World.cell?_setCell_same (h := h1)]
  · rw [World.cell?_setCell_same (u := b)]
    rw [World.cell?_setCell_other (h := n01), h2]
  · simpa using h4
  · simpa using h5

theorem ownsRow_setCell {w : World} {base : Nat} {e : TypeId} {size : Nat} {v : Value} {n : Nat} {xs : List Value} (h : w.ownsRow base e size v n xs) (a : Addr) (u : Value) (ha : a.block < base) : (w.setCell a u).ownsRow base e size v n xs := by
  obtain ⟨h1, h2 | ⟨g, cap, cur, rfl, hb, hg, r⟩⟩ := h
  · exact ⟨h1, .inl h2⟩
  · exact ⟨h1, .inr ⟨g, cap, cur, rfl, hb, by rw [heap_setCell_other w a g u (by omega)]; exact hg, r⟩⟩
theorem grown_al {w w' : World} {o : Obj} {base : Nat} {e : TypeId} {size : Nat} {v : Value} {n : Nat} {xs : List Value} (hown : w.ownsRow base e size v n xs) (hb : base ≤ w.heap.size) (hg : (w.alloc o).grownBy w' v.ownBlock) : Below base w w' :=
  ((Below.refl base w).alloc hb o).trans (grown_below (hown.alloc o) (by simp; omega) hg)

theorem Cell2.set1 {W : World} {B : Nat} {a b : Value} (h : Cell2 W B a b) (y : Value) : Cell2 (W.setCell ⟨B, 1, none⟩ y) B a y := by
  obtain ⟨h0, h1, h2, h4, h5⟩ := h
  have n01 : (⟨B, 0, none⟩ : Addr) ≠ ⟨B, 1, none⟩ := by simp
  refine ⟨by simp only [World.size_setCell]; exact h0, ?_, ?_, ?_, ?_⟩
  · rw [World.cell?_setCell_other (h := n01.symm), h1]
  · rw [World.cell?_setCell_same (h := h2)]
  · simpa using h4
  · simpa using h5
theorem Cell2.far {W : World} {B C i : Nat} {a b : Value} (h : Cell2 W B a b) (hne : C ≠ B) (y : Value) : Cell2 (W.setCell ⟨C, i, none⟩ y) B a b := by
  obtain ⟨h0, h1, h2, h4, h5⟩ := h
  have hn : ∀ o, (⟨C, i, none⟩ : Addr) ≠ ⟨B, o, none⟩ := by intro o e; injection e with e; exact hne e
  refine ⟨by simp only [World.size_setCell]; exact h0, ?_, ?_, ?_, ?_⟩
  · rw [World.cell?_setCell_other (h := hn 0), h1]
  · rw [World.cell?_setCell_other (h := hn 1), h2]
  · simpa using h4
  · simpa using h5

theorem grown_drew {w w' : World} {o : Obj} {base : Nat} {e : TypeId} {size : Nat} {v : Value} {n : Nat} {xs : List Value} (hown : w.ownsRow base e size v n xs) (hb : base ≤ w.heap.size) (hg : (w.alloc o).drew.grownBy w' v.ownBlock) : Below base w w' :=
  ((Below.refl base w).alloc hb o).drew.trans (grown_below ((hown.alloc o).drew) (by simp; omega) hg)


theorem infoT : (Try.prog.info? 45).map (fun i => (i.zero, i.size, i.bytes)) = some (some (.agg #[.int .i64 0, .int .i64 0, .int .i64 0]), 3, 24) := by kernel_rfl
theorem flatT_snoc (gs : List Ch) (g : Ch) : flatT (gs ++ [g]) = flatT gs ++ [.int .i64 g.1, .int .i64 g.2.1, .int .i64 g.2.2] := by simp [flatT]
theorem own_cap3 {w : World} {base : Nat} {e : TypeId} {size n : Nat} {v : Value} {xs : List Value} (h : w.ownsRow base e size v n xs) : ∀ q c, v = .slice q n c → n ≤ c := by
  rintro q c rfl
  exact own_cap h
theorem below_two (W : World) (o o' : Obj) : Below W.heap.size W ((W.alloc o).alloc o') := ((Below.refl _ _).alloc (Nat.le_refl _) _).alloc (by simp) _
/-- a hill whose channels lie in new memory -/
def HillPost (w : World) (n : Int) (gs : List Ch) (e : Ending) (w' : World) : Prop :=
  ∃ q c, e = .returned (hillV n q gs.length c) ∧ RowV w' q (flatT gs) ∧ (∀ a, q = some a → w.heap.size ≤ a.block ∧ a.block < w'.heap.size) ∧ gs.length ≤ c ∧ Below w.heap.size w w'
theorem step_tri (w : World) {ops : Array Oper} {o : Oper} {a : Act} {K : Act → World → Prop} {Q : Exit → Act → World → Prop} {E : Prop} (hgd : o.guard = none) (s x : Operand)
    (ho : o.op = .call { callee := .builtin .append, args := #[s, x], argTypes := #[22, 22] }) (base : Nat) (v : Value) (gs : List Ch) (g : Ch) (hs : a.eval s = v)
    (hown : w.ownsRow base 45 3 v gs.length (flatT gs)) (B c : Nat) (hx : a.eval x = .slice (some ⟨B, 0, none⟩) 1 c)
    (hc1 : w.cell? ⟨B, 0, none⟩ = some (.int .i64 g.1)) (hc2 : w.cell? ⟨B, 1, none⟩ = some (.int .i64 g.2.1)) (hc3 : w.cell? ⟨B, 2, none⟩ = some (.int .i64 g.2.2))
    (hl : gs.length ≤ 1000000) (hbase : base ≤ w.heap.size)
    (h : ∀ g' cap' w', w'.ownsRow base 45 3 (.slice (some ⟨g', 0, none⟩) (gs.length + 1) cap') (gs ++ [g]).length (flatT (gs ++ [g])) → w.grownBy w' v.ownBlock → K (a.put o.dst (.slice (some ⟨g', 0, none⟩) (gs.length + 1) cap')) w') :
    if Region.wanted o (yielded ops a.tmps) = true then Oper.wp Try.prog o a w K Q else E := by
  refine step_one w hgd s x 22 ho base 45 _ 3 24 Try.underlying22 infoT rfl (by decide) (by decide) v gs.length (flatT gs) hs hown B c hx [.int .i64 g.1, .int .i64 g.2.1, .int .i64 g.2.2] rfl ?_ ?_ hl hbase ?_
  · intro j u hj
    match j, hj with
    | 0, hj => simp at hj; subst hj; exact hc1
    | 1, hj => simp at hj; subst hj; exact hc2
    | 2, hj => simp at hj; subst hj; exact hc3
  · intro u hu
    simp at hu
    rcases hu with rfl | rfl | rfl <;> rfl
  · intro g' cap' w' h1 h2 h3 h4
    refine h g' cap' w' ?_ h2
    rw [flatT_snoc, List.length_append]
    exact h1
/-! numbers of eight bits -/
def flat8 (xs : List Int) : List Value := xs.map (Value.int .u8)
theorem flat8_length (xs : List Int) : (flat8 xs).length = xs.length := by simp [flat8]
theorem flat8_get (xs : List Int) (i : Nat) (h : i < xs.length) : (flat8 xs)[i]? = some (.int .u8 (xs.getD i 0)) := by
  rw [getD_eq xs i 0 h]; simp [flat8, List.getElem?_eq_getElem h]
/-- numbers of eight bits in a block -/
def BoxAt (W : World) (B : Nat) (xs : List Int) : Prop := B < W.heap.size ∧ W.rangeAt B 0 (flat8 xs)
theorem BoxAt.keep {W W' : World} {B : Nat} {xs : List Int} (h : BoxAt W B xs) {N : Nat} (hN : B < N) (hb : Below N W W') : BoxAt W' B xs :=
  ⟨Nat.lt_of_lt_of_le h.1 hb.size, fun j v hv => (hb.cell (p := ⟨B, 0 + j, none⟩) hN).trans (h.2 j v hv)⟩
theorem BoxAt.cell {W : World} {B : Nat} {xs : List Int} (h : BoxAt W B xs) (k : Nat) (hk : k < xs.length) : W.cell? ⟨B, k, none⟩ = some (.int .u8 (xs.getD k 0)) := by
  have := h.2 k _ (flat8_get xs k hk)
  simpa using this
theorem BoxAt.far {W : World} {B C : Nat} {xs : List Int} (h : BoxAt W B xs) (hne : C ≠ B) (i : Nat) (y : Value) : BoxAt (W.setCell ⟨C, i, none⟩ y) B xs :=
  ⟨by simp only [World.size_setCell]; exact h.1, fun j v hv => by
    have hn : (⟨C, i, none⟩ : Addr) ≠ ⟨B, 0 + j, none⟩ := by intro e; injection e with e; exact hne e
    rw [World.cell?_setCell_other (h := hn)]; exact h.2 j v hv⟩
theorem BoxAt.new (w : World) (xs : List Int) (t : TypeId) : BoxAt (w.alloc (.cells (flat8 xs).toArray t)) w.heap.size xs := by
  refine ⟨by simp, fun j v hv => ?_⟩
  have h1 : (w.alloc (.cells (flat8 xs).toArray t)).heap[w.heap.size]? = some (.cells (flat8 xs).toArray t (0, 0)) := by
    show (w.heap.push _)[w.heap.size]? = some _
    simp
  unfold World.cell?
  rw [h1]
  simpa using hv
theorem RowV.front {w : World} {q : Option Addr} {xs ys : List Value} (h : RowV w q (xs ++ ys)) : RowV w q xs := by
  cases xs with
  | nil => exact .inl rfl
  | cons x xs =>
    rcases h with h | ⟨b, off, e, hz, hc⟩
    · cases h
    · exact .inr ⟨b, off, e, hz, fun i v hi => hc i v (by rw [List.getElem?_append_left (List.getElem?_eq_some_iff.1 hi).1]; exact hi)⟩
theorem rowT_take {w : World} {q : Option Addr} {cs : List Ch} (h : RowV w q (flatT cs)) (k : Nat) : RowV w q (flatT (cs.take k)) := by
  have e : flatT cs = flatT (cs.take k) ++ flatT (cs.drop k) := by
    unfold flatT
    rw [← List.flatMap_append, List.take_append_drop]
  rw [e] at h
  exact h.front
theorem rowV_set {w : World} {b off i : Nat} {vs : List Value} (h : RowV w (some ⟨b, off, none⟩) vs) (hi : i < vs.length) (u : Value) : RowV (w.setCell ⟨b, off + i, none⟩ u) (some ⟨b, off, none⟩) (vs.set i u) := by
  obtain ⟨b', off', e, hz, hc⟩ := h.here hi
  simp only [Option.some.injEq, Addr.mk.injEq] at e
  obtain ⟨rfl, rfl, _⟩ := e
  refine .inr ⟨b, off, rfl, by simp only [World.size_setCell]; exact hz, fun j v hj => ?_⟩
  by_cases e : j = i
  · subst e
    rw [List.getElem?_set_self hi] at hj
    rw [World.cell?_setCell_same (h := hc j vs[j] (List.getElem?_eq_getElem hi))]
    exact hj
  · rw [List.getElem?_set_ne (Ne.symm e)] at hj
    have hn : (⟨b, off + i, none⟩ : Addr) ≠ ⟨b, off + j, none⟩ := by intro e2; simp only [Addr.mk.injEq] at e2; omega
    rw [World.cell?_setCell_other (h := hn)]
    exact hc j v hj
theorem flatT_set : ∀ (cs : List Ch) (i : Nat) (v : Int), i < cs.length → (flatT cs).set (i * 3 + 2) (.int .i64 v) = flatT (cs.set i ((cs.getD i (0, 0, 0)).1, (cs.getD i (0, 0, 0)).2.1, v))
  | [], i, v, h => by simp at h
  | c :: cs, 0, v, _ => by simp [flatT]
  | c :: cs, i + 1, v, h => by
    have ih := flatT_set cs i v (by simpa using h)
    have e : ∀ (c : Ch) (cs : List Ch), flatT (c :: cs) = .int .i64 c.1 :: .int .i64 c.2.1 :: .int .i64 c.2.2 :: flatT cs := fun c cs => by simp [flatT]
    rw [e, show (i + 1) * 3 + 2 = (i * 3 + 2) + 1 + 1 + 1 by omega, List.set_cons_succ, List.set_cons_succ, List.set_cons_succ, ih, List.set_cons_succ, e]
    simp
theorem far2 {W : World} {B C o : Nat} {x y : Value} {a : Option Value} (h : W.cell? ⟨B, o, none⟩ = a) (hne : B < C) : ((W.setCell ⟨C, 0, none⟩ x).setCell ⟨C, 1, none⟩ y).cell? ⟨B, o, none⟩ = a := by
  have hn : ∀ i, (⟨C, i, none⟩ : Addr) ≠ ⟨B, o, none⟩ := by intro i e; injection e with e; omega
  rw [World.cell?_setCell_other (h := hn 1), World.cell?_setCell_other (h := hn 0), h]
theorem rowV_far {w : World} {b off : Nat} {vs : List Value} (h : RowV w (some ⟨b, off, none⟩) vs) {C i : Nat} (hne : C ≠ b) (u : Value) : RowV (w.setCell ⟨C, i, none⟩ u) (some ⟨b, off, none⟩) vs := by
  rcases h with h | ⟨b', off', e, hz, hc⟩
  · exact .inl h
  · simp only [Option.some.injEq, Addr.mk.injEq] at e
    obtain ⟨rfl, rfl, _⟩ := e
    refine .inr ⟨b, off, rfl, by simp only [World.size_setCell]; exact hz, fun j v hj => ?_⟩
    have hn : (⟨C, i, none⟩ : Addr) ≠ ⟨b, off + j, none⟩ := by intro e2; injection e2 with e2; exact hne e2
    rw [World.cell?_setCell_other (h := hn)]
    exact hc j v hj
/-- what stays, whatever is made above -/
structure Bd (W0 W : World) (Q : World → Prop) : Prop where
  bel : Below W0.heap.size W0 W
  all : ∀ W', Below W.heap.size W W' → Q W'
theorem Bd.go {W0 W W' : World} {Q : World → Prop} (h : Bd W0 W Q) (hb : Below W.heap.size W W') : Bd W0 W' Q := ⟨h.bel.on hb, fun V hV => h.all V (hb.on hV)⟩
theorem Bd.at {W0 W : World} {Q : World → Prop} (h : Bd W0 W Q) : Q W := h.all W (Below.refl _ _)
theorem Bd.and {W0 W : World} {Q R : World → Prop} (h : Bd W0 W Q) (r : ∀ W', Below W.heap.size W W' → R W') : Bd W0 W fun W => R W ∧ Q W := ⟨h.bel, fun V hV => ⟨r V hV, h.all V hV⟩⟩
theorem Bd.row {W0 W : World} {Q : World → Prop} (h : Bd W0 W Q) {q : Option Addr} {vs : List Value} (hr : RowV W q vs) : Bd W0 W fun W => RowV W q vs ∧ Q W := h.and fun _ hb => hr.below (Nat.le_refl _) hb
theorem Bd.var {W0 W : World} {Q : World → Prop} (h : Bd W0 W Q) {B : Nat} {a b : Value} (hr : Cell2 W B a b) : Bd W0 W fun W => Cell2 W B a b ∧ Q W := h.and fun _ hb => hr.below hr.1 hb
theorem Bd.box {W0 W : World} {Q : World → Prop} (h : Bd W0 W Q) {B : Nat} {xs : List Int} (hr : BoxAt W B xs) : Bd W0 W fun W => BoxAt W B xs ∧ Q W := h.and fun _ hb => hr.keep hr.1 hb
theorem Bd.mono {W0 W : World} {Q R : World → Prop} (h : Bd W0 W Q) (hi : ∀ W, Q W → R W) : Bd W0 W R := ⟨h.bel, fun V hV => hi V (h.all V hV)⟩
theorem Cell2.new (w : World) (B : Nat) (hB : w.heap.size = B) (a b : Value) (t : TypeId) : Cell2 (w.alloc (.cells #[a, b] t)) B a b := by
  subst hB
  exact ⟨by simp, by simp, by simp, by simp, by simp⟩
end Go.Proofs.Ytadamjleglckpaa.drn

