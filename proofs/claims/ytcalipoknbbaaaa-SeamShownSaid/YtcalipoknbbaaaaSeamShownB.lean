/- SeamShown: the walk, and the row's step. -/
import Derived.Test.YtcalipoknbbaaaaSeamDoignonB
import Derived.Deep.CutRange
import Derived.Test.YtcalipoknbbaaaaRows
import Derived.WalkKit
import Derived.ProofKit
import Derived.OpenShut
import Derived.Test.YtcalipoknbbaaaaDigC
namespace Go.Proofs.Ytcalipoknbbaaaa
open Go.RowKit
set_option linter.unusedSimpArgs false
set_option linter.unusedVariables false

/-- at a step of a region that draws, under a guard or not: append(list, n): ints -/
theorem step_intW (w : World) {ops : Array Oper} {o : Oper} {a : Act} {K : Act → World → Prop} {Q : Exit → Act → World → Prop} {E : Prop} (hw : Region.wanted o (yielded ops a.tmps) = true) (s x : Operand)
    (ho : o.op = .call { callee := .builtin .append, args := #[s, x], argTypes := #[57, 57] }) (base : Nat) (v : Value) (xs : List Int) (n : Int) (hs : a.eval s = v)
    (hown : w.ownsRow base 3 1 v xs.length (flatI xs)) (B c : Nat) (hx : a.eval x = .slice (some ⟨B, 0, none⟩) 1 c)
    (hc1 : w.cell? ⟨B, 0, none⟩ = some (.int .i64 n)) (hl : xs.length ≤ 1000000) (hbase : base ≤ w.heap.size)
    (h : ∀ g cap w', w'.ownsRow base 3 1 (.slice (some ⟨g, 0, none⟩) (xs.length + 1) cap) (xs ++ [n]).length (flatI (xs ++ [n])) → w.grownBy w' v.ownBlock → K (a.put o.dst (.slice (some ⟨g, 0, none⟩) (xs.length + 1) cap)) w') :
    if Region.wanted o (yielded ops a.tmps) = true then Oper.wp Try.prog o a w K Q else E := by
  obtain ⟨i0, hi, hz0, hz1, hz2⟩ := info_parts info3
  rw [if_pos hw]
  refine wp_append_lies w s x 57 ho base 3 i0 _ 1 8 Try.underlying57 hi hz0 hz1 hz2 rfl (by decide) v xs.length (flatI xs) hs hown ⟨B, 0, none⟩ 1 c [.int .i64 n] hx rfl ?_ ?_ (by decide) (by unfold maxLen; omega) (by omega) hbase _ rfl ?_
  · intro j u hj
    rw [addr_add]
    match j, hj with
    | 0, hj => simp at hj; subst hj; exact hc1
  · intro u hu
    simp at hu
    subst hu
    rfl
  · intro g' cap' w' h1 h2 _ _
    refine h g' cap' w' ?_ h2
    rw [flatI_snoc, List.length_append]
    exact h1

theorem proves_at (n : Int) (q qi : Option Addr) (cap k capi : Nat) (gs : List Gl) (is : List Int) (w : World) (hk : is.length = k) (hr : RowG w q gs) (hi : RowI w qi is) (hl : is.length ≤ 1000000) (V : Int) (hV : provesOf n gs is = V) :
    Calls Try.prog 39 #[.agg #[.int .i64 n, .slice q gs.length cap], .slice qi k capi] w fun e w' => e = .returned (.int .i64 V) ∧ Below w.heap.size w w' := by
  subst hk
  subst hV
  exact Proves_any n q qi cap capi gs is w hr hi hl

theorem rowI_own {w : World} {base g m cap : Nat} {xs : List Int} (h : w.ownsRow base 3 1 (.slice (some ⟨g, 0, none⟩) m cap) xs.length (flatI xs)) : RowI w (some ⟨g, 0, none⟩) xs := by
  obtain ⟨q, c, e, hr⟩ := rowI_of_owns h
  injection e with e1 _ _
  rw [e1]
  exact hr

/-- ints in new memory, and how large -/
def OneC (w : World) (xs : List Int) (e : Ending) (w' : World) : Prop := ∃ q c, e = .returned (.slice q xs.length c) ∧ RowI w' q xs ∧ (q = none → c = 0) ∧ Below w.heap.size w w'
set_option maxRecDepth 100000 in
set_option maxHeartbeats 1000000 in
theorem members_cap (s : Nat) (w : World) (hs : s < 4096) : Calls Try.prog 87 #[.int .i64 s] w (OneC w (membL s)) := by
  go_enter Try.func87, Try.ntmps87
  go_wp2
  go_loopw [3, 5] (fun v i wr => ∃ k : Nat, k ≤ 12 ∧ i = .int .i64 k ∧ wr.ownsRow w.heap.size 3 1 v (membTo s k).length (flatI (membTo s k)) ∧ Below w.heap.size w wr) (fun _ i _ => 12 - (intOf i).toNat)
  case atStart => exact ⟨0, Nat.zero_le _, rfl, World.ownsRow_nil _ _ _ _, Below.refl _ _⟩
  case round =>
    obtain ⟨k, hk, rfl, hown, hbel⟩ := hrel
    have HO := Lib.hid hown
    clear hown
    by_cases hlt : k < 12
    · have hltI : (k : Int) < 12 := by omega
      have hk0 : (0 : Int) ≤ k := by omega
      have hl := membTo_le s k
      have hsz := hbel.size
      go_wp2_with (at_builtin; refine app_int _ rfl (.tmp 13) (.tmp 15) rfl w.heap.size _ _ (k : Int) rfl (HO.out.alloc _) wr.heap.size 1 rfl (by simp) (by omega) (by simp; omega) ?_; intro v' w3 hown3 hgrow hblk)
      · have hy : s.testBit k = true := by rw [← bit_eq s k hs]; assumption
        have hb3 := grown_below (HO.out.alloc (.cells #[.int .i64 k] 3)) (by simp; omega) hgrow
        have hbn := (hbel.alloc (by omega) (.cells #[.int .i64 k] 3)).trans hb3
        go_roundw
        case rel => exact ⟨k + 1, hlt, by go_num, by rw [membTo_succ, if_pos hy]; exact hown3, hbn⟩
        case measure => simp [intOf]; omega
      · have hy : s.testBit k = false := by rw [← bit_eq s k hs]; assumption
        go_roundw
        case rel => exact ⟨k + 1, hlt, by go_num, by rw [membTo_succ, if_neg (by simp [hy]), List.append_nil]; exact HO.out, hbel⟩
        case measure => simp [intOf]; omega
    · obtain rfl : k = 12 := by omega
      obtain ⟨q1, cc, rfl, r1⟩ := rowI_of_owns HO.out
      have HN := Lib.hid (owns_nil_cap HO.out)
      have hltI : ¬ ((12 : Nat) : Int) < 12 := by omega
      go_wp2
      go_ret
      exact ⟨q1, cc, rfl, r1, HN.out, hbel⟩

set_option maxRecDepth 100000 in
set_option maxHeartbeats 4000000 in
theorem SeamShown_any (s m : Nat) (ls : List By) (hs : s < 256) (hm : m < 256) (hls : ls.length = 10) (hok : ∀ x ∈ ls, okB x) (x : Nat) (hx : x < 65536) (y : Nat) (hy : y < 256) (w : World) :
    Calls Try.prog 17 #[.agg (digCells s m ls), .int .u16 x, .int .u8 y] w fun e w' => e = .returned (.bool true) ∧ Below w.heap.size w w' := by
  obtain ⟨n, hn⟩ : ∃ n, n = 1 + s % 6 := ⟨_, rfl⟩
  have hn1 : 1 ≤ n := by omega
  have hn7 : n ≤ 7 := by have := Nat.mod_lt s (show 0 < 6 by decide); omega
  have c0 := fun W => made_at 6 10 s m ls n hn (by decide) (by decide) (by decide) hs hm hls hok W 6 10 rfl rfl
  have C0 := Lib.hid c0
  have HLS := Lib.hid hls
  have HDG := Lib.hid (DigAt.new w s m ls)
  have hb0 : Below w.heap.size w (w.alloc (.cells (digCells s m ls) 90)) := (Below.refl _ _).alloc (Nat.le_refl _) _
  have HB0 := Lib.hid hb0
  have hge := digG_err n 10 m ls hn1 hn7
  have hgl := digG_len n 10 m ls
  have h0 := digG_errH n 10 m ls hn1 hn7 (by decide)
  clear c0 hn hs hm hok hls hb0
  generalize digG n 10 m ls = gs at *
  have hog := okGs_of hge
  have HOG := Lib.hid hog
  obtain ⟨N, hN⟩ : ∃ N, 2 ^ gs.length = N := ⟨_, rfl⟩
  have hNp : 0 < N := by rw [← hN]; exact Nat.pow_pos (by decide)
  have hN4 : N ≤ 1024 := by rw [← hN]; exact Nat.pow_le_pow_right (by omega) (show gs.length ≤ 10 by omega)
  have hpe : (2 : Int) ^ gs.length = (N : Int) := by rw [← hN]; simp
  obtain ⟨t, ht⟩ : ∃ t, x % N = t := ⟨_, rfl⟩
  have htN : t < N := by rw [← ht]; exact Nat.mod_lt _ hNp
  have ht4 : t < 4096 := by omega
  have htx : t < 2 ^ gs.length := by rw [hN]; exact htN
  have i1 : IntKind.i64.wrap ((2 : Int) ^ gs.length) = (N : Int) := by rw [hpe, IntWalk.i64_in _ ⟨by omega, by omega⟩]
  have i2 : ((N : Int) == 0) = false := beq_eq_false_iff_ne.2 (by omega)
  have i3 : (x : Int) % (N : Int) = (t : Int) := by rw [← ht]; simp
  have hml := membTo_le t 12
  obtain ⟨l, hl⟩ : ∃ l, membL t = l := ⟨_, rfl⟩
  have hll : l.length ≤ 12 := by rw [← hl]; exact hml
  have cm := fun W => members_cap t W ht4
  have p1 := proves_memb n gs t h0 htx
  have p2 := proves_out n gs t ((gs.length : Int) + y) h0 htx (.inr (by omega))
  have p3 := proves_out n gs t (-1 - (y : Int)) h0 htx (.inl (by omega))
  have p4 := fun z hz => proves_twice n gs t z h0 htx hz
  simp only [hl] at cm p1 p2 p3 p4
  have CM := Lib.hid cm
  have P1 := Lib.hid p1
  have P2 := Lib.hid p2
  have P3 := Lib.hid p3
  have P4 := Lib.hid p4
  have hrl := regL_len n (sel true l gs) hn7
  have hsl := sel_length true l gs
  clear hog hge h0 hN hpe ht htN ht4 htx hml hl cm p1 p2 p3 p4
  go_enter Try.func17, Try.ntmps17
  go_upto_region 3 with (first
    | (refine wpList_load90 _ _ s m ls HLS.out HDG.out (.tmp 3) rfl rfl rfl ?_)
    | (go_at_call 63; refine (C0.out _).mono ?_; rintro e w1 ⟨q, c, rfl, hown, hb1⟩))
  obtain ⟨q', c', e', hr1, hq1⟩ := owns_cap hown
  injection e' with e2 _ e3
  subst e2; subst e3
  have B1 := (HB0.out.trans (hb1.mono (by simp))).alloc (by have := hb1.size; simp at this; omega) (.cells #[.int .i64 n, .slice q gs.length c] 24)
  have hI : Inv w (w1.alloc (.cells #[.int .i64 n, .slice q gs.length c] 24)) [(q, c, gs)] [] [] [(w1.heap.size, 1, .slice q gs.length c), (w1.heap.size, 0, .int .i64 n)] :=
    ((((Inv.start w).go B1).addG (hr1.below (Nat.le_refl _) ((Below.refl _ w1).alloc (Nat.le_refl _) _)) hq1).addC (b := w1.heap.size) (o := 0) (v := .int .i64 n) (by simp) (by simp)).addC (b := w1.heap.size) (o := 1) (v := .slice q gs.length c) (by simp) (by simp)
  generalize (w1.alloc (.cells #[.int .i64 n, .slice q gs.length c] 24)) = W1 at *
  generalize w1.heap.size = B at *
  have HI := Lib.hid hI
  clear hown hb1 hr1 hq1 B1 hI C0 HDG HLS HB0
  go_upto_region 5 with (go_at_call 87; refine (CM.out _).mono ?_; rintro e W ⟨ql, cl, rfl, rl, hq, hb⟩; have hI := (HI.out.go hb).addI rl; replace HI := Lib.hid hI; clear hI rl; have HQ := Lib.hid hq; clear hq)
  have k0 := HI.out.c (b := B) (o := 0) (v := .int .i64 n) (by simp)
  have k1 := HI.out.c (b := B) (o := 1) (v := .slice q gs.length c) (by simp)
  have hB := HI.out.lt (b := B) (o := 0) (v := .int .i64 n) (by simp)
  have hd : Below W.heap.size W W.drew := (Below.refl _ _).drew
  have HD := Lib.hid hd
  have HR := Lib.hid ((HI.out.1 (q, c, gs) (by simp)).1.below (Nat.le_refl _) hd)
  have HX := Lib.hid ((HI.out.2.2.1 (ql, l) (by simp)).below (Nat.le_refl _) hd)
  have HH := Lib.hid ((show HillAt W B n (.slice q gs.length c) from ⟨hB, k0, k1⟩).below (Nat.le_refl _) hd)
  clear hd
  go_region_held3 (fun W => W.cell? ⟨B, 0, none⟩ = some (.int .i64 n) ∧ W.cell? ⟨B, 1, none⟩ = some (.slice q gs.length c)) (first | exact ⟨ka, kb⟩ | exact ⟨kc, kd⟩ | go_keep)
    (first
    | (go_at_call 68; refine (some_any true q ql c cl gs l _ HR.out HX.out (by omega) (by omega)).mono ?_; rintro e w1 ⟨q3, c3, rfl, r3, _, hb1⟩; have hB1 := HH.out.below (Nat.le_refl _) hb1; obtain ⟨y0, ka, kb⟩ := hB1)
    | (go_at_call 64; refine (left_any n q3 c3 _ _ hn7 (fun g hg' => HOG.out g (sel_mem _ _ _ g hg')) r3 (by omega)).mono ?_; rintro e w2 ⟨q4, c4, rfl, r4, hb2⟩; have hb12 := hb1.trans (hb2.mono hb1.size); have hB2 := HH.out.below (Nat.le_refl _) hb12; obtain ⟨x0, kc, kd⟩ := hB2))
  have hI := HI.out.go (HD.out.trans (hb12.mono (by simp)))
  replace HI := Lib.hid hI
  clear hI HD HR HX HH hb12 hb1 hb2 r3 r4 hB k0 k1
  generalize (regL n (sel true l gs)).length = E0 at *
  have hV : E0 = 0 ∧ (if E0 = 0 then (0 : Int) else 14) = 0 ∨ E0 ≠ 0 ∧ (if E0 = 0 then (0 : Int) else 14) = 14 := by
    by_cases h : E0 = 0
    · exact .inl ⟨h, if_pos h⟩
    · exact .inr ⟨h, if_neg h⟩
  generalize (if E0 = 0 then (0 : Int) else 14) = V at *
  rcases hV with ⟨hz, rfl⟩ | ⟨hz, rfl⟩
  case' inl =>
    have hz1 : ((E0 : Int) == 0) = true := beq_iff_eq.2 (by omega)
    clear hz
    go_upto_region 7 with fail
  case' inr =>
    have hz1 : ((E0 : Int) == 0) = false := beq_eq_false_iff_ne.2 (by omega)
    clear hz
    go_upto_region 7 with fail
  all_goals
    clear hz1
    obtain ⟨W5, rfl⟩ : ∃ W5 : World, W5 = w2 := ⟨_, rfl⟩
    have k0 := HI.out.c (b := B) (o := 0) (v := .int .i64 n) (by simp)
    have k1 := HI.out.c (b := B) (o := 1) (v := .slice q gs.length c) (by simp)
    have hB := HI.out.lt (b := B) (o := 0) (v := .int .i64 n) (by simp)
    have hd : Below W5.heap.size W5 W5.drew := (Below.refl _ _).drew
    have HD := Lib.hid hd
    have HR := Lib.hid ((HI.out.1 (q, c, gs) (by simp)).1.below (Nat.le_refl _) hd)
    have HX := Lib.hid ((HI.out.2.2.1 (ql, l) (by simp)).below (Nat.le_refl _) hd)
    have HH := Lib.hid ((show HillAt W5 B n (.slice q gs.length c) from ⟨hB, k0, k1⟩).below (Nat.le_refl _) hd)
    have i6 : IntKind.i64.wrap (y : Int) = (y : Int) := IntWalk.i64_in _ ⟨by omega, by omega⟩
    have i4 : IntKind.i64.wrap ((gs.length : Int) + IntKind.i64.wrap (y : Int)) = (gs.length : Int) + (y : Int) := by rw [i6]; exact IntWalk.i64_in _ ⟨by omega, by omega⟩
    have i5 : IntKind.i64.wrap (-1 - IntKind.i64.wrap (y : Int)) = -1 - (y : Int) := by rw [i6]; exact IntWalk.i64_in _ ⟨by omega, by omega⟩
    obtain ⟨X2, hX2⟩ : ∃ X2 : Int, (gs.length : Int) + (y : Int) = X2 := ⟨_, rfl⟩
    obtain ⟨X3, hX3⟩ : ∃ X3 : Int, -1 - (y : Int) = X3 := ⟨_, rfl⟩
    have hl1 : l.length ≤ 1000 := by omega
    rw [hX2] at i4 P2
    rw [hX3] at i5 P3
    clear hd hX2 hX3 i6
    go_cut [60] from 22 to 60 (fun v wx => v = .bool false ∧ Below W5.heap.size W5 wx)
    case first =>
      go_region_held3 (fun W => W.cell? ⟨B, 0, none⟩ = some (.int .i64 n) ∧ W.cell? ⟨B, 1, none⟩ = some (.slice q gs.length c)) (first | exact ⟨ka, kb⟩ | exact ⟨kba, kbb⟩ | exact ⟨kca, kcb⟩ | exact ⟨kda, kdb⟩ | exact ⟨kea, keb⟩ | exact ⟨kfa, kfb⟩ | exact ⟨kga, kgb⟩ | go_keep)
        (first
        | (go_at_call 39; (with_reducible refine (proves_at n q ql c l.length cl gs l _ rfl HR.out HX.out (by omega) _ P1.out).mono ?_); rintro e v1 ⟨rfl, ha1⟩; have a1 := HD.out.trans (ha1.mono (by simp)); have HHv1 := Lib.hid (HH.out.below (Nat.le_refl _) ha1); obtain ⟨_, ka, kb⟩ := HHv1.out; have HXv1 := Lib.hid (HX.out.below (Nat.le_refl _) ha1); have HRv1 := Lib.hid (HR.out.below (Nat.le_refl _) ha1); have A1 := Lib.hid a1; clear a1)
        | (go_at_call 70; refine (cloneI_any ql cl l _ (by first | exact HXv1.out | exact HXv1.out.below (Nat.le_refl _) ((Below.refl _ _).alloc (Nat.le_refl _) _)) HQ.out hl1).mono ?_; rintro e v2 ⟨zv2, rfl, hownv2, hav2⟩; have hbv2 : Below v1.heap.size v1 v2 := (by first | exact hav2 | exact al0 ((Below.refl _ _).alloc (Nat.le_refl _) _) hav2 (by simp)); have HOv2 : Hid (v2.ownsRow v1.heap.size 3 1 zv2 l.length (flatI l)) := (by first | exact Lib.hid hownv2 | exact Lib.hid (hownv2.mono (by simp))); obtain ⟨_, kba, kbb⟩ := HHv1.out.below (Nat.le_refl _) hbv2; have hsv2 := hbv2.size)
        | (refine step_intW _ (by rfl) (.tmp 39) (.tmp 44) (by rfl) v1.heap.size _ l X2 (by rfl) (HOv2.out.alloc _) v2.heap.size 1 (by rfl) (by simp [i4, i5]) (by omega) (by simp; omega) ?_; intro gv3 pv3 v3 hownv3 hgrow; have hbv3 := hbv2.trans (grown_al HOv2.out hsv2 hgrow); have Rv3 := Lib.hid (rowI_own hownv3); obtain ⟨_, kca, kcb⟩ := HHv1.out.below (Nat.le_refl _) hbv3; have HRv3 := Lib.hid (HRv1.out.below (Nat.le_refl _) hbv3))
        | (refine step_intW _ (by rfl) (.tmp 39) (.tmp 44) (by rfl) v1.heap.size _ l X2 (by rfl) HOv2.out v1.heap.size 1 (by rfl) ((hav2.cell (p := ⟨v1.heap.size, 0, none⟩) (by simp)).trans (by simp [i4, i5])) (by omega) (by omega) ?_; intro gv3 pv3 v3 hownv3 hgrow; have hbv3 := hbv2.trans (grown_below HOv2.out hsv2 hgrow); have Rv3 := Lib.hid (rowI_own hownv3); obtain ⟨_, kca, kcb⟩ := HHv1.out.below (Nat.le_refl _) hbv3; have HRv3 := Lib.hid (HRv1.out.below (Nat.le_refl _) hbv3))
        | (go_at_call 39; (with_reducible refine (proves_at n q (some ⟨gv3, 0, none⟩) c (l.length + 1) pv3 gs (l ++ [X2]) _ (by simp) HRv3.out Rv3.out (by simp; omega) _ P2.out).mono ?_); rintro e v4 ⟨rfl, hav4⟩; have hbv4 := hbv3.trans (hav4.mono hbv3.size); have HHv4 := Lib.hid (HHv1.out.below (Nat.le_refl _) hbv4); obtain ⟨_, kda, kdb⟩ := HHv4.out; have HXv4 := Lib.hid (HXv1.out.below (Nat.le_refl _) hbv4); have HRv4 := Lib.hid (HRv1.out.below (Nat.le_refl _) hbv4))
        | (go_at_call 70; refine (cloneI_any ql cl l _ (by first | exact HXv4.out | exact HXv4.out.below (Nat.le_refl _) ((Below.refl _ _).alloc (Nat.le_refl _) _)) HQ.out hl1).mono ?_; rintro e v5 ⟨zv5, rfl, hownv5, hav5⟩; have hbv5 : Below v4.heap.size v4 v5 := (by first | exact hav5 | exact al0 ((Below.refl _ _).alloc (Nat.le_refl _) _) hav5 (by simp)); have HOv5 : Hid (v5.ownsRow v4.heap.size 3 1 zv5 l.length (flatI l)) := (by first | exact Lib.hid hownv5 | exact Lib.hid (hownv5.mono (by simp))); obtain ⟨_, kea, keb⟩ := HHv4.out.below (Nat.le_refl _) hbv5; have hsv5 := hbv5.size)
        | (refine step_intW _ (by rfl) (.tmp 52) (.tmp 56) (by rfl) v4.heap.size _ l X3 (by rfl) (HOv5.out.alloc _) v5.heap.size 1 (by rfl) (by simp [i4, i5]) (by omega) (by simp; omega) ?_; intro gv6 pv6 v6 hownv6 hgrow; have hbv6 := hbv5.trans (grown_al HOv5.out hsv5 hgrow); have Rv6 := Lib.hid (rowI_own hownv6); obtain ⟨_, kfa, kfb⟩ := HHv4.out.below (Nat.le_refl _) hbv6; have HRv6 := Lib.hid (HRv4.out.below (Nat.le_refl _) hbv6))
        | (refine step_intW _ (by rfl) (.tmp 52) (.tmp 56) (by rfl) v4.heap.size _ l X3 (by rfl) HOv5.out v4.heap.size 1 (by rfl) ((hav5.cell (p := ⟨v4.heap.size, 0, none⟩) (by simp)).trans (by simp [i4, i5])) (by omega) (by omega) ?_; intro gv6 pv6 v6 hownv6 hgrow; have hbv6 := hbv5.trans (grown_below HOv5.out hsv5 hgrow); have Rv6 := Lib.hid (rowI_own hownv6); obtain ⟨_, kfa, kfb⟩ := HHv4.out.below (Nat.le_refl _) hbv6; have HRv6 := Lib.hid (HRv4.out.below (Nat.le_refl _) hbv6))
        | (go_at_call 39; (with_reducible refine (proves_at n q (some ⟨gv6, 0, none⟩) c (l.length + 1) pv6 gs (l ++ [X3]) _ (by simp) HRv6.out Rv6.out (by simp; omega) _ P3.out).mono ?_); rintro e v7 ⟨rfl, hav7⟩; have hbv7 := hbv6.trans (hav7.mono hbv6.size); have HHv7 := Lib.hid (HHv4.out.below (Nat.le_refl _) hbv7); obtain ⟨_, kga, kgb⟩ := HHv7.out; have HXv7 := Lib.hid (HXv4.out.below (Nat.le_refl _) hbv7); have HRv7 := Lib.hid (HRv4.out.below (Nat.le_refl _) hbv7)))
      all_goals
        go_wp2
        go_meet
        case rel => exact ⟨rfl, (A1.out.trans (hbv4.mono A1.out.size)).trans (hbv7.mono (A1.out.trans (hbv4.mono A1.out.size)).size)⟩
    case rest =>
      obtain ⟨rfl, hbc⟩ := hcut
      have hI := HI.out.go hbc
      replace HI := Lib.hid hI
      clear hI k0 k1 hB HD HR HX HH i4 i5 hbc
      by_cases hl0 : l.length = 0
      · have hlb : ((l.length : Int) == 0) = true := beq_iff_eq.2 (by omega)
        have HL0 := Lib.hid hl0
        clear hl0
        go_wp2_with (go_at_call 19; refine (HI.out.scalar (V' := .bool true) (works_any _) rfl).mono ?_; rintro e Wz ⟨rfl, hI⟩; replace HI := Lib.hid hI; clear hI)
        go_ret
        exact ⟨rfl, HI.out.2.2.2.2⟩
      · have hlb : ((l.length : Int) == 0) = false := beq_eq_false_iff_ne.2 (by omega)
        have hlb2 : ¬ (l.length : Int) = 0 := by omega
        have hne : ¬ l = [] := fun h => hl0 (by rw [h]; rfl)
        obtain ⟨k, hk⟩ : ∃ k, y % l.length = k := ⟨_, rfl⟩
        have hkl : k < l.length := by rw [← hk]; exact Nat.mod_lt _ (by omega)
        obtain ⟨b, off, rfl, hbz0, g1⟩ := (HI.out.2.2.1 (ql, l) (by simp)).at hkl (Nat.le_refl _) (Below.refl _ _)
        have hzm : l.getD k 0 ∈ l := getD_mem l k 0 hkl
        have P7 := Lib.hid (P4.out _ hzm)
        generalize l.getD k 0 = z at g1 P7
        have i7 : IntKind.i64.wrap (y : Int) = (y : Int) := IntWalk.i64_in _ ⟨by omega, by omega⟩
        have j6 : (IntKind.i64.wrap (y : Int)).tmod (l.length : Int) = (k : Int) := by rw [i7, Int.tmod_eq_emod_of_nonneg (by omega), ← hk]; simp
        have j9 : (y : Int).tmod (l.length : Int) = (k : Int) := by rw [Int.tmod_eq_emod_of_nonneg (by omega), ← hk]; simp
        have j10 : (y : Int) % (l.length : Int) = (k : Int) := by rw [← hk]; simp
        have j7 : (0 : Int) ≤ (k : Int) := by omega
        have j8 : (k : Int) < (l.length : Int) := by omega
        have hd : Below wc.heap.size wc wc.drew := (Below.refl _ _).drew
        have HD := Lib.hid hd
        have k0 := HI.out.c (b := B) (o := 0) (v := .int .i64 n) (by simp)
        have k1 := HI.out.c (b := B) (o := 1) (v := .slice q gs.length c) (by simp)
        have hB := HI.out.lt (b := B) (o := 0) (v := .int .i64 n) (by simp)
        have HRd := Lib.hid ((HI.out.1 (q, c, gs) (by simp)).1.below (Nat.le_refl _) hd)
        have HXd := Lib.hid ((HI.out.2.2.1 (some ⟨b, off, none⟩, l) (by simp)).below (Nat.le_refl _) hd)
        have HHd := Lib.hid ((show HillAt wc B n (.slice q gs.length c) from ⟨hB, k0, k1⟩).below (Nat.le_refl _) hd)
        have hbz : b < wc.drew.heap.size := by simpa using hbz0
        have G1 := Lib.hid (show wc.drew.cell? ⟨b, off + k, none⟩ = some (.int .i64 z) by simpa using g1)
        have hl1 : l.length ≤ 1000 := by omega
        have HKK := Lib.hid hk
        clear hl0 hk hzm hd hbz0
        go_wp2
        go_region_held3 (fun W => W.cell? ⟨B, 0, none⟩ = some (.int .i64 n) ∧ W.cell? ⟨B, 1, none⟩ = some (.slice q gs.length c) ∧ W.cell? ⟨b, off + k, none⟩ = some (.int .i64 z)) (first | exact ⟨ka, kb, kc⟩ | exact ⟨kd, ke, kf⟩ | exact ⟨kg, kh, ki⟩ | exact ⟨kj, kk, kl⟩ | go_keep)
          (first
        | (go_at_call 70; refine (cloneI_any (some ⟨b, off, none⟩) cl l _ (by first | exact HXd.out | exact HXd.out.below (Nat.le_refl _) ((Below.refl _ _).alloc (Nat.le_refl _) _)) HQ.out hl1).mono ?_; rintro e v5 ⟨zv5, rfl, hownv5, hav5⟩; have hbv5 : Below wc.drew.heap.size wc.drew v5 := (by first | exact hav5 | exact al0 ((Below.refl _ _).alloc (Nat.le_refl _) _) hav5 (by simp)); have HOv5 : Hid (v5.ownsRow wc.drew.heap.size 3 1 zv5 l.length (flatI l)) := (by first | exact Lib.hid hownv5 | exact Lib.hid (hownv5.mono (by simp))); obtain ⟨_, ka, kb⟩ := HHd.out.below (Nat.le_refl _) hbv5; have kc := (hbv5.cell (p := ⟨b, off + k, none⟩) hbz).trans G1.out; have hsv5 := hbv5.size; have hsv5' : wc.heap.size ≤ v5.heap.size := (by simpa using hbv5.size))
        | (refine step_intW _ (by rfl) (.tmp 67) (.tmp 76) (by rfl) wc.drew.heap.size _ l z (by rfl) (HOv5.out.alloc _) v5.heap.size 1 (by rfl) (by simp) (by omega) (by simp <;> omega) ?_; intro gv6 pv6 v6 hownv6 hgrow; have hbv6 := hbv5.trans (grown_al HOv5.out hsv5 hgrow); have Rv6 := Lib.hid (rowI_own hownv6); obtain ⟨_, kd, ke⟩ := HHd.out.below (Nat.le_refl _) hbv6; have kf := (hbv6.cell (p := ⟨b, off + k, none⟩) hbz).trans G1.out; have HRv6 := Lib.hid (HRd.out.below (Nat.le_refl _) hbv6))
        | (refine step_intW _ (by rfl) (.tmp 67) (.tmp 76) (by rfl) wc.drew.heap.size _ l z (by rfl) HOv5.out wc.drew.heap.size 1 (by rfl) ((hav5.cell (p := ⟨wc.drew.heap.size, 0, none⟩) (by simp)).trans (by simp)) (by omega) (by simp <;> omega) ?_; intro gv6 pv6 v6 hownv6 hgrow; have hbv6 := hbv5.trans (grown_below HOv5.out hsv5 hgrow); have Rv6 := Lib.hid (rowI_own hownv6); obtain ⟨_, kd, ke⟩ := HHd.out.below (Nat.le_refl _) hbv6; have kf := (hbv6.cell (p := ⟨b, off + k, none⟩) hbz).trans G1.out; have HRv6 := Lib.hid (HRd.out.below (Nat.le_refl _) hbv6))
        | (go_at_call 39; (with_reducible refine (proves_at n q (some ⟨gv6, 0, none⟩) c (l.length + 1) pv6 gs (l ++ [z]) _ (by simp) HRv6.out Rv6.out (by simp; omega) _ P7.out).mono ?_); rintro e v7 ⟨rfl, hav7⟩; have hbv7 := hbv6.trans (hav7.mono hbv6.size); obtain ⟨_, kg, kh⟩ := HHd.out.below (Nat.le_refl _) hbv7; have ki := (hbv7.cell (p := ⟨b, off + k, none⟩) hbz).trans G1.out)
        | (go_at_call 19; refine (works_any _).mono ?_; rintro e v8 ⟨rfl, hav8⟩; have hbv8 := hbv7.trans (hav8.mono hbv7.size); obtain ⟨_, kj, kk⟩ := HHd.out.below (Nat.le_refl _) hbv8; have kl := (hbv8.cell (p := ⟨b, off + k, none⟩) hbz).trans G1.out))
        all_goals
          go_wp2
          go_ret
          have hI := (HI.out.go HD.out).go hbv8
          exact ⟨rfl, hI.2.2.2.2⟩
end Go.Proofs.Ytcalipoknbbaaaa
namespace Go.Proofs.Ytcalipoknbbaaaa.seamShown
open Go Go.ChangeShapes Go.WideShapes Go.ChangeAt Go.RowKit

theorem own : ownKnob Try.prog.godebug = none := by kernel_rfl

set_option maxRecDepth 100000 in
theorem lifted (os : Os) (started : os.Started) (H : Type) (enc : TypeId × Value → H) :
    ReturnsInHanded {} Try.checked os 17 .any (Rows.seamShownSpec.pre6 enc Try.prog Try.f17 Rows.seamShownRow.domain false) (Rows.seamShownSpec.post enc Try.prog Try.f17 false true false false) := by
  refine returnsInHanded_of_change (C := Try.checked) own started (by kernel_rfl) Try.func17
    (ChangeSpec.witness6 (enc := enc) (C := Try.checked) false { blocks := #[], args := #[.agg (digCells 0 0 (List.replicate 10 (0, 0, 0, 0))), .int .u16 0, .int .u8 0], vars := [] } 8 (by kernel_rfl) (by kernel_rfl) (by kernel_rfl) (by kernel_rfl)) ?_
  intro W base args ds gs before hval0 hW hcnd _
  have hval : ∀ (j : Nat) t v, Try.f17.params[j]? = some t → args[j]? = some v → Value.okWide Try.prog W .any base t v := hval0
  have hW' := hW
  obtain ⟨p, q, hA0, hV, rfl, hfz, hnd⟩ := hW
  have hA : DataW.TrodAll enc Try.prog W 0 (fun _ => true) true Try.f17.params.toList args.toList ds p := hA0
  rw [Try.params17] at hA hval
  obtain ⟨v0, v1, v2, d0, d1, d2, p0, p1, p2, rfl, rfl, rfl, h0, h1, h2⟩ := trodAll_three hA
  obtain ⟨rfl, rfl⟩ := trodVars_none hV
  obtain ⟨rfl, g0⟩ := trod_same 5 plain90 h0
  obtain ⟨rfl, g1⟩ := trod_same 5 plain125 h1
  obtain ⟨rfl, g2⟩ := trod_same 5 plain5 h2
  obtain ⟨s0, m0, ls0, rfl, k0a, k0b, k0c, k0d⟩ := dig_of (hval 0 90 v0 rfl rfl)
  obtain ⟨x1, rfl, k1⟩ := u16_of (hval 1 125 v1 rfl rfl)
  obtain ⟨x2, rfl, k2⟩ := u8_of (hval 2 5 v2 rfl rfl)
  clear hA0 hval0
  simp only [List.append_nil] at hW'
  refine (SeamShown_any s0 m0 ls0 k0a k0b k0c k0d x1 k1 x2 k2 W).mono fun e W' ⟨he, hg⟩ => ?_
  subst he
  refine ⟨_, rfl, _, _, _, [] ++ [], [] ++ [], [], hW', ?_, ?_, ?_, hg.frame _, fun h => by cases h⟩
  · exact trodAll_cons_mk (shut_bool Try.underlying4 _) trodAll_mk0
  · exact trodAll_cons_mk (g0 _ _ _ _) (trodAll_cons_mk (g1 _ _ _ _) (trodAll_cons_mk (g2 _ _ _ _) trodAll_mk0))
  · rfl

end Go.Proofs.Ytcalipoknbbaaaa.seamShown
