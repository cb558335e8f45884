/- The reference's functions of SeamHills, and galleries, inner and equal (helpers of the law). -/
import Derived.Test.YtcalipoknbbaaaaKnown
import Derived.Test.YtcalipoknbbaaaaReg
import Derived.Test.YtcalipoknbbaaaaLaw3
import Derived.BigQuiet
import Derived.Deep.RegionHeld3
import Derived.Test.YtcalipoknbbaaaaLaw7
import Derived.Test.YtcalipoknbbaaaaSeamp
import Derived.Test.YtcalipoknbbaaaaLaw6
namespace Go.Proofs.Ytcalipoknbbaaaa
open Go.RowKit
set_option linter.unusedSimpArgs false
set_option linter.unusedVariables false

theorem info47 : (Try.prog.info? 47).map (fun i => (i.zero, i.size, i.bytes)) = some (some (.agg #[.int .i64 0, .int .i64 0, .int .i64 0]), 3, 24) := by kernel_rfl
theorem info38 : (Try.prog.info? 38).map (fun i => (i.zero, i.size, i.bytes)) = some (some (.agg #[.int .i64 0, .int .i64 0]), 2, 16) := by kernel_rfl
/-- append(list, g): galleries -/
theorem app_galR (w : World) {ops : Array Oper} {rest : List Oper} {o : Oper} {a : Act} {Q : Exit → Act → World → Prop} (hgd : o.guard = none) (s x : Operand)
    (ho : o.op = .call { callee := .builtin .append, args := #[s, x], argTypes := #[30, 30] }) (base : Nat) (v : Value) (gs : List Gl) (g : Gl) (hs : a.eval s = v)
    (hown : w.ownsRow base 47 3 v gs.length (flatG gs)) (B c : Nat) (hx : a.eval x = .slice (some ⟨B, 0, none⟩) 1 c)
    (hc1 : w.cell? ⟨B, 0, none⟩ = some (.int .i64 g.1)) (hc2 : w.cell? ⟨B, 1, none⟩ = some (.int .i64 g.2.1)) (hc3 : w.cell? ⟨B, 2, none⟩ = some (.int .i64 g.2.2))
    (hl : gs.length ≤ 1000000) (hbase : base ≤ w.heap.size)
    (h : ∀ v' w', w'.ownsRow base 47 3 v' (gs ++ [g]).length (flatG (gs ++ [g])) → w.grownBy w' v.ownBlock → (v'.ownBlock = v.ownBlock ∨ v'.ownBlock = some w.heap.size) → wpList Try.prog ops Q rest (a.put o.dst v') w') :
    wpList Try.prog ops Q (o :: rest) a w := by
  obtain ⟨i0, hi, hz0, hz1, hz2⟩ := info_parts info47
  refine wpList_append_blk w hgd s x 30 ho base 47 i0 _ 3 24 Try.underlying30 hi hz0 hz1 hz2 rfl (by decide) v gs.length (flatG gs) hs hown ⟨B, 0, none⟩ 1 c [.int .i64 g.1, .int .i64 g.2.1, .int .i64 g.2.2] hx rfl ?_ ?_ (by unfold maxLen; omega) (by omega) hbase (by decide) ?_
  · intro j u hj
    rw [addr_add]
    match j, hj with
    | 0, hj => simp at hj; subst hj; exact hc1
    | 1, hj => simp at hj; subst hj; exact hc2
    | 2, hj => simp at hj; subst hj; exact hc3
  · intro u hu
    simp at hu
    rcases hu with rfl | rfl | rfl <;> rfl
  · intro v' w' h1 h2 h3
    refine h v' w' ?_ h2 h3
    rw [flatG_snoc, List.length_append]
    exact h1
/-- append(list, p): places -/
theorem app_placeR (w : World) {ops : Array Oper} {rest : List Oper} {o : Oper} {a : Act} {Q : Exit → Act → World → Prop} (hgd : o.guard = none) (s x : Operand)
    (ho : o.op = .call { callee := .builtin .append, args := #[s, x], argTypes := #[42, 42] }) (base : Nat) (v : Value) (gs : List Pl) (g : Pl) (hs : a.eval s = v)
    (hown : w.ownsRow base 38 2 v gs.length (flatP gs)) (B c : Nat) (hx : a.eval x = .slice (some ⟨B, 0, none⟩) 1 c)
    (hc1 : w.cell? ⟨B, 0, none⟩ = some (.int .i64 g.1)) (hc2 : w.cell? ⟨B, 1, none⟩ = some (.int .i64 g.2))
    (hl : gs.length ≤ 1000000) (hbase : base ≤ w.heap.size)
    (h : ∀ v' w', w'.ownsRow base 38 2 v' (gs ++ [g]).length (flatP (gs ++ [g])) → w.grownBy w' v.ownBlock → (v'.ownBlock = v.ownBlock ∨ v'.ownBlock = some w.heap.size) → wpList Try.prog ops Q rest (a.put o.dst v') w') :
    wpList Try.prog ops Q (o :: rest) a w := by
  obtain ⟨i0, hi, hz0, hz1, hz2⟩ := info_parts info38
  refine wpList_append_blk w hgd s x 42 ho base 38 i0 _ 2 16 Try.underlying42 hi hz0 hz1 hz2 rfl (by decide) v gs.length (flatP gs) hs hown ⟨B, 0, none⟩ 1 c [.int .i64 g.1, .int .i64 g.2] hx rfl ?_ ?_ (by unfold maxLen; omega) (by omega) hbase (by decide) ?_
  · intro j u hj
    rw [addr_add]
    match j, hj with
    | 0, hj => simp at hj; subst hj; exact hc1
    | 1, hj => simp at hj; subst hj; exact hc2
  · intro u hu
    simp at hu
    rcases hu with rfl | rfl <;> rfl
  · intro v' w' h1 h2 h3
    refine h v' w' ?_ h2 h3
    rw [flatP_snoc, List.length_append]
    exact h1

/-- from one number to another one -/
def inB (x lo hi : Int) : Bool := decide (lo ≤ x) && decide (x ≤ hi)
set_option maxHeartbeats 400000 in
theorem in_any (x lo hi : Int) (w : World) : Calls Try.prog 97 #[.int .i64 x, .int .i64 lo, .int .i64 hi] w fun e w' => e = .returned (.bool (inB x lo hi)) ∧ w = w' := by
  by_cases h1 : lo ≤ x
  · by_cases h2 : x ≤ hi
    · have e : inB x lo hi = true := by simp [inB, h1, h2]
      rw [e]
      clear e
      go_enter Try.func97, Try.ntmps97
      go_wp2
      go_ret
      exact ⟨rfl, rfl⟩
    · have e : inB x lo hi = false := by simp [inB, h2]
      rw [e]
      have h2' : decide (x ≤ hi) = false := decide_eq_false h2
      clear e
      go_enter Try.func97, Try.ntmps97
      go_wp2
      go_ret
      exact ⟨rfl, rfl⟩
  · have e : inB x lo hi = false := by simp [inB, h1]
    rw [e]
    have h1' : decide (lo ≤ x) = false := decide_eq_false h1
    clear e
    go_enter Try.func97, Try.ntmps97
    go_wp2
    go_ret
    exact ⟨rfl, rfl⟩

theorem errG_in (g : Gl) : errG g = if inB g.1 (-9) 9 = false then 1 else if inB g.2.1 (-9) 9 = false then 1 else if inB g.2.2 (-201) 200 = false then 1 else if g.1 = 0 ∧ g.2.1 = 0 then 5 else 0 := by
  unfold errG inB
  simp only [Bool.and_eq_false_iff, decide_eq_false_iff_not, Int.not_le]
set_option maxRecDepth 100000 in
set_option maxHeartbeats 1000000 in
theorem rchecked_any (g : Gl) (w : World) : Calls Try.prog 102 #[.agg #[.int .i64 g.1, .int .i64 g.2.1, .int .i64 g.2.2]] w fun e w' => e = .returned (.int .i64 (errG g)) ∧ Below w.heap.size w w' := by
  obtain ⟨a, b, c⟩ := g
  have hE := errG_in (a, b, c)
  have HE := Lib.hid hE
  clear hE
  go_enter Try.func102, Try.ntmps102
  go_wp2_with (go_at_call 97; refine (in_any _ _ _ _).mono ?_; rintro e w' ⟨rfl, rfl⟩)
  all_goals
    go_ret
    refine ⟨ret_int ?_, (Below.refl _ _).alloc (Nat.le_refl _) _⟩
    rw [HE.out]
    simp_all

theorem errH_in (n : Int) (gs : List Gl) : errH n gs = if inB n 1 7 = false then 1 else if 10 < gs.length then 3 else errL gs := by
  unfold errH errGs inB
  by_cases h1 : n < 1 ∨ 7 < n
  · have : (decide (1 ≤ n) && decide (n ≤ 7)) = false := by
      rw [Bool.and_eq_false_iff]
      rcases h1 with h | h
      · exact .inl (decide_eq_false (by omega))
      · exact .inr (decide_eq_false (by omega))
    rw [if_pos h1, if_pos this]
  · rw [if_neg h1, decide_eq_true (show 1 ≤ n by omega), decide_eq_true (show n ≤ 7 by omega)]
    rfl
theorem hillAt_new (w : World) (n : Int) (v : Value) (hv : v.oneCell' = true) (t : TypeId) : HillAt (w.alloc (.cells #[.int .i64 n, v] t)) w.heap.size n v := ⟨by simp, by simp, by simp⟩

set_option maxRecDepth 100000 in
set_option maxHeartbeats 1000000 in
theorem rCheck_any (n : Int) (q : Option Addr) (cap : Nat) (gs : List Gl) (w : World) (hr : RowG w q gs) :
    Calls Try.prog 33 #[.agg #[.int .i64 n, .slice q gs.length cap]] w fun e w' => e = .returned (.int .i64 (errH n gs)) ∧ Below w.heap.size w w' := by
  have hb0 : Below w.heap.size w (w.alloc (.cells #[.int .i64 n, .slice q gs.length cap] 32)) := (Below.refl _ _).alloc (Nat.le_refl _) _
  have HB0 := Lib.hid hb0
  have HR := Lib.hid (hr.below (Nat.le_refl _) hb0)
  have HH := Lib.hid (hillAt_new w n (.slice q gs.length cap) rfl 32)
  have hE := errH_in n gs
  have HE := Lib.hid hE
  have hi1 := fun W => in_any n 1 7 W
  have HI := Lib.hid hi1
  clear hr hb0 hE hi1
  generalize inB n 1 7 = x at *
  cases x with
  | false =>
    have e := HE.out.trans (if_pos rfl)
    rw [e]
    clear e HE
    go_enter Try.func33, Try.ntmps33
    go_wp2_with (go_at_call 97; refine (HI.out _).mono ?_; rintro e w' ⟨rfl, rfl⟩)
    go_ret
    exact ⟨rfl, HB0.out⟩
  | true =>
    have e1 := HE.out.trans (if_neg (by simp))
    replace HE := Lib.hid e1
    clear e1
    by_cases h10 : 10 < gs.length
    · have e := HE.out.trans (if_pos h10)
      rw [e]
      clear e HE
      go_enter Try.func33, Try.ntmps33
      go_wp2_with (go_at_call 97; refine (HI.out _).mono ?_; rintro e w' ⟨rfl, rfl⟩)
      go_ret
      exact ⟨rfl, HB0.out⟩
    · have e := HE.out.trans (if_neg h10)
      rw [e]
      clear e HE
      go_enter Try.func33, Try.ntmps33
      go_wp2_with (go_at_call 97; refine (HI.out _).mono ?_; rintro e w' ⟨rfl, rfl⟩)
      generalize (w.alloc (.cells #[.int .i64 n, .slice q gs.length cap] 32)) = W0 at *
      go_loopw [3] (fun i wr => ∃ k : Nat, k ≤ gs.length ∧ i = .int .i64 k ∧ AllYes (fun g => errG g == 0) gs k ∧ Below W0.heap.size W0 wr) (fun i _ => gs.length - (intOf i).toNat)
      case atStart => exact ⟨0, Nat.zero_le _, rfl, rfl, Below.refl _ _⟩
      case round =>
        obtain ⟨k, hk, rfl, hall, hbel⟩ := hrel
        have hbw := HB0.out.trans (hbel.mono HB0.out.size)
        have HBW := Lib.hid hbw
        clear hbw
        obtain ⟨z0, k0, k1⟩ := HH.out.below (Nat.le_refl _) hbel
        by_cases hlt : k < gs.length
        · obtain ⟨b, off, rfl, hb, h1, h2, h3⟩ := HR.out.at hlt (Nat.le_refl _) hbel
          have hst := hall.step hlt (0, 0, 0)
          have hhit := errL_hit gs k (0, 0, 0) hlt hall
          have HS := Lib.hid hst
          have HX := Lib.hid hhit
          clear hst hhit
          generalize gs.getD k (0, 0, 0) = g at h1 h2 h3 HS HX
          by_cases he : errG g = 0
          · have hee : (errG g != 0) = false := by simp [he]
            go_wp2_with (go_at_call 102; refine (rchecked_any g _).mono ?_; rintro e w' ⟨rfl, hb'⟩)
            go_roundw
            case rel => exact ⟨k + 1, hlt, by go_num, HS.out.1 (by simp [he]), hbel.trans (hb'.mono hbel.size)⟩
            case measure => simp [intOf]; omega
          · have hee : (errG g != 0) = true := by simp [he]
            go_wp2_with (go_at_call 102; refine (rchecked_any g _).mono ?_; rintro e w' ⟨rfl, hb'⟩)
            go_ret
            exact ⟨ret_int (HX.out he).symm, HBW.out.trans (hb'.mono HBW.out.size)⟩
        · obtain rfl : k = gs.length := by omega
          have hm := errL_miss _ hall
          go_wp2
          go_ret
          exact ⟨ret_int hm.symm, HBW.out⟩

set_option maxHeartbeats 400000 in
theorem ragrees_any (g : Gl) (p : Pl) (w : World) (hp : okP p) (hg : okG g) :
    Calls Try.prog 98 #[.agg #[.int .i64 g.1, .int .i64 g.2.1, .int .i64 g.2.2], .agg #[.int .i64 p.1, .int .i64 p.2]] w fun e w' => e = .returned (.bool (agr g p)) ∧ Below w.heap.size w w' := by
  obtain ⟨x, y⟩ := p
  obtain ⟨a, b, c⟩ := g
  go_enter Try.func98, Try.ntmps98
  go_wp2
  go_ret
  refine ⟨ret_bool ?_, ((Below.refl _ _).alloc (Nat.le_refl _) _).alloc (by simp) _⟩
  show decide (_ ≤ _) = _
  rw [wrap_val hp.1 hp.2 hg.1 hg.2]
  rfl

theorem all_take {gs : List Gl} {p : Pl} {k : Nat} (h : k < gs.length) : (gs.take (k + 1)).all (fun g => agr g p) = ((gs.take k).all (fun g => agr g p) && agr (gs.getD k (0, 0, 0)) p) := by
  rw [List.take_succ_eq_append_getElem h, List.all_append, getD_eq gs k (0, 0, 0) h]
  simp

theorem all_whole {gs : List Gl} {p : Pl} : (gs.take gs.length).all (fun g => agr g p) = agrAll gs p := by rw [List.take_length]; rfl
set_option maxRecDepth 100000 in
set_option maxHeartbeats 4000000 in
theorem rregion_any (m : Nat) (q : Option Addr) (cap : Nat) (gs : List Gl) (w : World) (hm : m ≤ 7) (hr : RowG w q gs) (hgs : ∀ g ∈ gs, okG g) (hl : gs.length ≤ 1000) :
    Calls Try.prog 99 #[.int .i64 m, .slice q gs.length cap] w (OneP w (regL m gs)) := by
  have HR := Lib.hid hr
  have HGS := Lib.hid hgs
  clear hr hgs
  go_enter Try.func99, Try.ntmps99
  go_wp2
  go_loopw [5, 6] (fun v i wr => ∃ k : Nat, k ≤ m ∧ i = .int .i64 k ∧ wr.ownsRow w.heap.size 38 2 v (regTo m gs k 0).length (flatP (regTo m gs k 0)) ∧ Below w.heap.size w wr) (fun _ i _ => m - (intOf i).toNat)
  case atStart => exact ⟨0, Nat.zero_le _, rfl, by rw [regTo_zero]; exact World.ownsRow_nil _ _ _ _, Below.refl _ _⟩
  case round =>
    obtain ⟨k, hk, rfl, hown, hbel⟩ := hrel
    have HO := Lib.hid hown
    have HB := Lib.hid hbel
    clear hown hbel
    by_cases hlt : k < m
    · go_wp2
      go_loopw [5, 7] (fun v i wr => ∃ j : Nat, j ≤ m ∧ i = .int .i64 j ∧ wr.ownsRow w.heap.size 38 2 v (regTo m gs k j).length (flatP (regTo m gs k j)) ∧ Below w.heap.size w wr) (fun _ i _ => m - (intOf i).toNat)
      case atStart => exact ⟨0, Nat.zero_le _, rfl, HO.out, HB.out⟩
      case round =>
        clear HO HB
        obtain ⟨j, hj, rfl, hown, hbel⟩ := hrel
        have HO := Lib.hid hown
        have HB := Lib.hid hbel
        clear hown hbel
        by_cases hlt2 : j < m
        · have HP : okP ((k : Int), (j : Int)) := ⟨⟨by omega, by simp; omega⟩, ⟨by omega, by simp; omega⟩⟩
          have HPP := Lib.hid HP
          have hst := regTo_step m gs k j
          have hbd := regTo_bd (gs := gs) hm hk hj
          have HST := Lib.hid hst
          clear hst HP
          generalize regTo m gs k j = out at *
          obtain ⟨wo, hwo⟩ : ∃ wo : World, wo = wr := ⟨_, rfl⟩
          go_wp2
          go_loopw [8, 9] (fun a i wr => ∃ t : Nat, t ≤ gs.length ∧ i = .int .i64 t ∧ a = .bool ((gs.take t).all fun g => agr g ((k : Int), (j : Int))) ∧ wr.ownsRow w.heap.size 38 2 u5 out.length (flatP out) ∧ Below w.heap.size w wr) (fun _ i _ => gs.length - (intOf i).toNat)
          case atStart => exact ⟨0, Nat.zero_le _, rfl, rfl, HO.out, HB.out⟩
          case round =>
            clear HO HB
            obtain ⟨t, ht, rfl, rfl, hown, hbel⟩ := hrel
            have HO := Lib.hid hown
            have HB := Lib.hid hbel
            by_cases htl : t < gs.length
            · obtain ⟨b, off, rfl, hb, h1, h2, h3⟩ := HR.out.at htl (Nat.le_refl _) hbel
              have hat := all_take (p := ((k : Int), (j : Int))) htl
              have hog := HGS.out _ (getD_mem gs t (0, 0, 0) htl)
              generalize gs.getD t (0, 0, 0) = g at *
              have HAT := Lib.hid hat
              clear hat hown
              have hbs := hbel.size
              cases hall : ((gs.take t).all fun g => agr g ((k : Int), (j : Int))) with
              | true =>
                have e := HAT.out
                rw [hall, Bool.true_and] at e
                have HE := Lib.hid e
                clear e hall HAT
                go_wp2_with (go_at_call 98; refine (ragrees_any g ((k : Int), (j : Int)) _ HPP.out hog).mono ?_; rintro e w2 ⟨rfl, hb2⟩)
                go_roundw
                case rel => exact ⟨t + 1, htl, by go_num, by rw [HE.out], owns_below HO.out (Nat.le_refl _) hb2, hbel.trans (hb2.mono hbs)⟩
                case measure => simp [intOf]; omega
              | false =>
                have e := HAT.out
                rw [hall, Bool.false_and] at e
                have HE := Lib.hid e
                clear e hall HAT
                go_wp2
                go_roundw
                case rel => exact ⟨t + 1, htl, by go_num, by rw [HE.out], HO.out, HB.out⟩
                case measure => simp [intOf]; omega
            · obtain rfl : t = gs.length := by omega
              rw [all_whole]
              have hbs := hbel.size
              cases hag : agrAll gs ((k : Int), (j : Int)) with
              | true =>
                have e := HST.out
                rw [if_pos hag] at e
                have HE := Lib.hid e
                clear e hag HST hown
                go_wp2_with (at_builtin; refine app_placeR _ rfl (.tmp 38) (.tmp 42) rfl w.heap.size _ _ ((k : Int), (j : Int)) rfl ((HO.out.alloc _)) wr.heap.size 1 rfl (by simp) (by simp) (by omega) (by simp; omega) ?_; intro v' w4 hown4 hgrow hblk)
                have hb4 := grown_below (HO.out.alloc (.cells #[.int .i64 k, .int .i64 j] 38)) (by simp; omega) hgrow
                go_roundw
                case rel => exact ⟨j + 1, by omega, by go_num, by rw [HE.out]; exact hown4, (hbel.alloc (by omega) _).trans hb4⟩
                case measure => simp [intOf]; omega
              | false =>
                have e := HST.out
                rw [if_neg (by simp [hag]), List.append_nil] at e
                have HE := Lib.hid e
                clear e hag HST hown
                go_wp2
                go_roundw
                case rel => exact ⟨j + 1, by omega, by go_num, by rw [HE.out]; exact HO.out, hbel⟩
                case measure => simp [intOf]; omega
        · obtain rfl : j = m := by omega
          have ho := HO.out
          rw [regTo_col] at ho
          have HO2 := Lib.hid ho
          clear ho
          go_wp2
          go_roundw
          case rel => exact ⟨k + 1, by omega, by go_num, HO2.out, HB.out⟩
          case measure => simp [intOf]; omega
    · obtain rfl : k = m := by omega
      have ho := HO.out
      rw [regTo_all] at ho
      obtain ⟨q1, c1, rfl, r1⟩ := rowP_of_owns ho
      clear ho HO
      go_wp2
      go_ret
      exact ⟨q1, c1, rfl, r1, HB.out⟩
end Go.Proofs.Ytcalipoknbbaaaa
namespace Go.Proofs.Ytcalipoknbbaaaa
open Go.RowKit
set_option linter.unusedSimpArgs false
set_option linter.unusedVariables false

theorem Inv.oneH (w : World) (n : Int) (q : Option Addr) (c : Nat) (gs : List Gl) (hr : RowG w q gs) (hq : q = none → c = 0) :
    Inv w (w.alloc (.cells #[.int .i64 n, .slice q gs.length c] 32)) [(q, c, gs)] [] [] [(w.heap.size, 1, .slice q gs.length c), (w.heap.size, 0, .int .i64 n)] :=
  ((((Inv.start w).addG hr hq).alloc _).addC (b := w.heap.size) (o := 0) (v := .int .i64 n) (by simp) (by simp)).addC (b := w.heap.size) (o := 1) (v := .slice q gs.length c) (by simp) (by simp)
theorem Inv.twoHG (w : World) (n : Int) (q : Option Addr) (c : Nat) (gs : List Gl) (a b d : Int) (hr : RowG w q gs) (hq : q = none → c = 0) :
    Inv w ((w.alloc (.cells #[.int .i64 n, .slice q gs.length c] 32)).alloc (.cells #[.int .i64 a, .int .i64 b, .int .i64 d] 47)) [(q, c, gs)] [] []
      [(w.heap.size + 1, 2, .int .i64 d), (w.heap.size + 1, 1, .int .i64 b), (w.heap.size + 1, 0, .int .i64 a), (w.heap.size, 1, .slice q gs.length c), (w.heap.size, 0, .int .i64 n)] :=
  ((((Inv.oneH w n q c gs hr hq).alloc _).addC (b := w.heap.size + 1) (o := 0) (v := .int .i64 a) (by simp) (by simp)).addC (b := w.heap.size + 1) (o := 1) (v := .int .i64 b) (by simp) (by simp)).addC (b := w.heap.size + 1) (o := 2) (v := .int .i64 d) (by simp) (by simp)
theorem Inv.twoHP (w : World) (n : Int) (q : Option Addr) (c : Nat) (gs : List Gl) (a b : Int) (hr : RowG w q gs) (hq : q = none → c = 0) :
    Inv w ((w.alloc (.cells #[.int .i64 n, .slice q gs.length c] 32)).alloc (.cells #[.int .i64 a, .int .i64 b] 38)) [(q, c, gs)] [] []
      [(w.heap.size + 1, 1, .int .i64 b), (w.heap.size + 1, 0, .int .i64 a), (w.heap.size, 1, .slice q gs.length c), (w.heap.size, 0, .int .i64 n)] :=
  (((Inv.oneH w n q c gs hr hq).alloc _).addC (b := w.heap.size + 1) (o := 0) (v := .int .i64 a) (by simp) (by simp)).addC (b := w.heap.size + 1) (o := 1) (v := .int .i64 b) (by simp) (by simp)

set_option maxRecDepth 100000 in
set_option maxHeartbeats 2000000 in
theorem rRegion_any (n : Int) (q : Option Addr) (c : Nat) (gs : List Gl) (w : World) (hr : RowG w q gs) (hq : q = none → c = 0) :
    Calls Try.prog 24 #[.agg #[.int .i64 n, .slice q gs.length c]] w (PlacesErr w (regionOf n gs)) := by
  have HI := Lib.hid (Inv.oneH w n q c gs hr hq)
  clear hr hq
  obtain ⟨E, hE⟩ : ∃ E, errH n gs = E := ⟨_, rfl⟩
  have HE := Lib.hid hE
  by_cases h0 : E = 0
  · subst h0
    obtain ⟨o1, o2, o3, o4⟩ := errH_ok hE
    obtain ⟨m, rfl⟩ := Int.eq_ofNat_of_zero_le (show 0 ≤ n by omega)
    have hgs := okGs_of o4
    have hres : regionOf m gs = (regL m gs, 0) := by rw [regionOf, if_neg (by simp [hE]), Int.toNat_natCast]
    rw [hres]
    have HGS := Lib.hid hgs
    have k0 := HI.out.c (b := w.heap.size) (o := 0) (v := .int .i64 m) (by simp)
    have k1 := HI.out.c (b := w.heap.size) (o := 1) (v := .slice q gs.length c) (by simp)
    clear hres hE o4 hgs
    go_enter Try.func24, Try.ntmps24
    go_wp2_with (first
      | (go_at_call 33; refine (HI.out.scalar (V' := .int .i64 0) (rCheck_any m q c gs _ (HI.out.1 (q, c, gs) (by simp)).1) (by rw [HE.out])).mono ?_; rintro e W ⟨rfl, hI⟩; replace HI := Lib.hid hI; clear hI k0 k1; have k0 := HI.out.c (b := w.heap.size) (o := 0) (v := .int .i64 m) (by simp); have k1 := HI.out.c (b := w.heap.size) (o := 1) (v := .slice q gs.length c) (by simp))
      | (go_at_call 99; refine (HI.out.places (rregion_any m q c gs _ (by omega) (HI.out.1 (q, c, gs) (by simp)).1 HGS.out (by omega))).mono ?_; rintro e W ⟨q3, c3, rfl, hI⟩; replace HI := Lib.hid hI; clear hI))
    go_ret2
    exact ⟨q3, c3, rfl, HI.out.2.1 (q3, regL m gs) (by simp), HI.out.2.2.2.2⟩
  · have hres : regionOf n gs = ([], E) := by rw [regionOf, hE, if_pos h0]
    rw [hres]
    have hb : (E != 0) = true := by simp [h0]
    clear hres hE
    go_enter Try.func24, Try.ntmps24
    go_wp2_with (go_at_call 33; refine (HI.out.scalar (V' := .int .i64 E) (rCheck_any n q c gs _ (HI.out.1 (q, c, gs) (by simp)).1) (by rw [HE.out])).mono ?_; rintro e W ⟨rfl, hI⟩; replace HI := Lib.hid hI; clear hI)
    go_ret2
    exact ⟨none, 0, rfl, .inl rfl, HI.out.2.2.2.2⟩

theorem onG_in (n : Int) (p : Pl) : onG n p = (inB p.1 0 (n - 1) && inB p.2 0 (n - 1)) := by
  unfold onG inB
  rw [Bool.eq_iff_iff]
  simp only [Bool.and_eq_true, decide_eq_true_eq]
  omega

theorem all_no {α : Type} {f : α → Bool} {l : List α} {k : Nat} (h : AllYes f l k) (hk : k < l.length) (d : α) (hf : f (l.getD k d) = false) : l.all f = false := by
  rw [getD_eq l k d hk] at hf
  exact List.all_eq_false.2 ⟨l[k], List.getElem_mem hk, by simp [hf]⟩
set_option maxRecDepth 100000 in
set_option maxHeartbeats 4000000 in
theorem rAgrees_any (n : Int) (q : Option Addr) (c : Nat) (gs : List Gl) (p : Pl) (w : World) (hr : RowG w q gs) (hq : q = none → c = 0) :
    Calls Try.prog 22 #[.agg #[.int .i64 n, .slice q gs.length c], .agg #[.int .i64 p.1, .int .i64 p.2]] w fun e w' => e = .returned (.tuple #[.bool (agreesOf n gs p).1, .int .i64 (agreesOf n gs p).2]) ∧ Below w.heap.size w w' := by
  obtain ⟨a, b⟩ := p
  have HI := Lib.hid (Inv.twoHP w n q c gs a b hr hq)
  clear hr hq
  obtain ⟨E, hE⟩ : ∃ E, errH n gs = E := ⟨_, rfl⟩
  have HE := Lib.hid hE
  by_cases h0 : E = 0
  · subst h0
    obtain ⟨o1, o2, o3, o4⟩ := errH_ok hE
    have hgs := okGs_of o4
    have hog := onG_in n (a, b)
    have hres : agreesOf n gs (a, b) = if (inB a 0 (n - 1) && inB b 0 (n - 1)) = true then (agrAll gs (a, b), 0) else (false, 2) := by rw [agreesOf, if_neg (by simp [hE]), hog]
    have hpo := fun h : onG n (a, b) = true => onG_ok (p := (a, b)) (n := n) (by omega) h
    rw [hog] at hpo
    dsimp only at hpo
    have HPO := Lib.hid hpo
    have HGS := Lib.hid hgs
    have hnw : IntKind.i64.wrap (n - 1) = n - 1 := IntWalk.i64_in _ ⟨by omega, by omega⟩
    clear hE o4 hgs hog hpo
    rw [hres]
    clear hres
    have k0 := HI.out.c (b := w.heap.size) (o := 0) (v := .int .i64 n) (by simp)
    have k1 := HI.out.c (b := w.heap.size) (o := 1) (v := .slice q gs.length c) (by simp)
    have k2 := HI.out.c (b := w.heap.size + 1) (o := 0) (v := .int .i64 a) (by simp)
    have k3 := HI.out.c (b := w.heap.size + 1) (o := 1) (v := .int .i64 b) (by simp)
    cases hx1 : inB a 0 (n - 1) with
    | false =>
      go_enter Try.func22, Try.ntmps22
      go_wp2_with (first
        | (go_at_call 33; refine (HI.out.scalar (V' := .int .i64 0) (rCheck_any n q c gs _ (HI.out.1 (q, c, gs) (by simp)).1) (by rw [HE.out])).mono ?_; rintro e W ⟨rfl, hI⟩; replace HI := Lib.hid hI; clear hI k0 k1 k2 k3; have k0 := HI.out.c (b := w.heap.size) (o := 0) (v := .int .i64 n) (by simp); have k1 := HI.out.c (b := w.heap.size) (o := 1) (v := .slice q gs.length c) (by simp); have k2 := HI.out.c (b := w.heap.size + 1) (o := 0) (v := .int .i64 a) (by simp); have k3 := HI.out.c (b := w.heap.size + 1) (o := 1) (v := .int .i64 b) (by simp))
        | (go_at_call 97; refine (in_any _ _ _ _).mono ?_; rintro e w' ⟨rfl, rfl⟩))
      go_ret2
      exact ⟨rfl, HI.out.2.2.2.2⟩
    | true =>
      cases hx2 : inB b 0 (n - 1) with
      | false =>
        go_enter Try.func22, Try.ntmps22
        go_wp2_with (first
          | (go_at_call 33; refine (HI.out.scalar (V' := .int .i64 0) (rCheck_any n q c gs _ (HI.out.1 (q, c, gs) (by simp)).1) (by rw [HE.out])).mono ?_; rintro e W ⟨rfl, hI⟩; replace HI := Lib.hid hI; clear hI k0 k1 k2 k3; have k0 := HI.out.c (b := w.heap.size) (o := 0) (v := .int .i64 n) (by simp); have k1 := HI.out.c (b := w.heap.size) (o := 1) (v := .slice q gs.length c) (by simp); have k2 := HI.out.c (b := w.heap.size + 1) (o := 0) (v := .int .i64 a) (by simp); have k3 := HI.out.c (b := w.heap.size + 1) (o := 1) (v := .int .i64 b) (by simp))
          | (go_at_call 97; refine (in_any _ _ _ _).mono ?_; rintro e w' ⟨rfl, rfl⟩))
        go_ret2
        exact ⟨rfl, HI.out.2.2.2.2⟩
      | true =>
        have hpp := HPO.out (by rw [hx1, hx2]; rfl)
        have HPP := Lib.hid hpp
        clear hpp HPO
        go_enter Try.func22, Try.ntmps22
        go_upto_region 7 with (first
          | (go_at_call 33; refine (HI.out.scalar (V' := .int .i64 0) (rCheck_any n q c gs _ (HI.out.1 (q, c, gs) (by simp)).1) (by rw [HE.out])).mono ?_; rintro e W ⟨rfl, hI⟩; replace HI := Lib.hid hI; clear hI k0 k1 k2 k3; have k0 := HI.out.c (b := w.heap.size) (o := 0) (v := .int .i64 n) (by simp); have k1 := HI.out.c (b := w.heap.size) (o := 1) (v := .slice q gs.length c) (by simp); have k2 := HI.out.c (b := w.heap.size + 1) (o := 0) (v := .int .i64 a) (by simp); have k3 := HI.out.c (b := w.heap.size + 1) (o := 1) (v := .int .i64 b) (by simp))
          | (go_at_call 97; refine (in_any _ _ _ _).mono ?_; rintro e w' ⟨rfl, rfl⟩))
        clear hx1 hx2 k0 k1 k2 k3
        go_loopw [7] (fun i wr => ∃ t : Nat, t ≤ gs.length ∧ i = .int .i64 t ∧ AllYes (fun g => agr g (a, b)) gs t ∧ Inv w wr [(q, c, gs)] [] [] [(w.heap.size + 1, 1, .int .i64 b), (w.heap.size + 1, 0, .int .i64 a), (w.heap.size, 1, .slice q gs.length c), (w.heap.size, 0, .int .i64 n)]) (fun i _ => gs.length - (intOf i).toNat)
        case atStart => exact ⟨0, Nat.zero_le _, rfl, rfl, HI.out⟩
        case round =>
          clear HI
          obtain ⟨t, ht, rfl, hall, hI⟩ := hrel
          have HI := Lib.hid hI
          clear hI
          have k0 := HI.out.c (b := w.heap.size) (o := 0) (v := .int .i64 n) (by simp)
          have k1 := HI.out.c (b := w.heap.size) (o := 1) (v := .slice q gs.length c) (by simp)
          have k2 := HI.out.c (b := w.heap.size + 1) (o := 0) (v := .int .i64 a) (by simp)
          have k3 := HI.out.c (b := w.heap.size + 1) (o := 1) (v := .int .i64 b) (by simp)
          by_cases htl : t < gs.length
          · obtain ⟨bb, off, e, hb, h1, h2, h3⟩ := (HI.out.1 (q, c, gs) (by simp)).1.at htl (Nat.le_refl _) (Below.refl _ _)
            subst e
            have hst := hall.step htl (0, 0, 0)
            have hog := HGS.out _ (getD_mem gs t (0, 0, 0) htl)
            have hno := fun h => all_no hall htl (0, 0, 0) h
            generalize gs.getD t (0, 0, 0) = g at *
            have HST := Lib.hid hst
            have HNO := Lib.hid hno
            have HID := Lib.hid (HI.out.go (Below.refl _ _).drew)
            clear hst hno
            obtain ⟨ga, gb, gc⟩ := g
            have hT := ragrees_any (ga, gb, gc) (a, b) wr.drew HPP.out hog
            have HT := Lib.hid hT
            clear hT
            dsimp only at h1 h2 h3
            go_upto_region 9 with fail
            go_region_held3 (fun W => W.cell? ⟨w.heap.size, 1, none⟩ = some (.slice (some ⟨bb, off, none⟩) gs.length c) ∧ W.cell? ⟨w.heap.size + 1, 0, none⟩ = some (.int .i64 a) ∧ W.cell? ⟨w.heap.size + 1, 1, none⟩ = some (.int .i64 b) ∧ W.cell? ⟨bb, off + t * 3, none⟩ = some (.int .i64 ga) ∧ W.cell? ⟨bb, off + t * 3 + 1, none⟩ = some (.int .i64 gb) ∧ W.cell? ⟨bb, off + t * 3 + 2, none⟩ = some (.int .i64 gc)) (first | exact ⟨k1, k2, k3, h1, h2, h3⟩ | exact ⟨j1, j2, j3, j4, j5, j6⟩ | go_keep)
              (first
              | (go_at_call 98; refine HT.out.mono ?_; rintro e V ⟨rfl, hbv⟩; have HJ := Lib.hid (HID.out.go hbv); have j1 := HJ.out.c (b := w.heap.size) (o := 1) (v := .slice (some ⟨bb, off, none⟩) gs.length c) (by simp); have j2 := HJ.out.c (b := w.heap.size + 1) (o := 0) (v := .int .i64 a) (by simp); have j3 := HJ.out.c (b := w.heap.size + 1) (o := 1) (v := .int .i64 b) (by simp); have j4 := (hbv.cell (p := ⟨bb, off + t * 3, none⟩) hb).trans h1; have j5 := (hbv.cell (p := ⟨bb, off + t * 3 + 1, none⟩) hb).trans h2; have j6 := (hbv.cell (p := ⟨bb, off + t * 3 + 2, none⟩) hb).trans h3)
              | fail)
            clear k0 k1 k2 k3 h1 h2 h3 j1 j2 j3 j4 j5 j6 HI HID HT
            cases hag : agr (ga, gb, gc) (a, b) with
            | true =>
              have hns := HST.out.1 hag
              have HNS := Lib.hid hns
              clear hns hag HST HNO
              go_wp2
              go_roundw
              case rel => exact ⟨t + 1, htl, by go_num, HNS.out, HJ.out⟩
              case measure => simp [intOf]; omega
            | false =>
              have hf := HNO.out hag
              have hf' : agrAll gs (a, b) = false := hf
              have HF := Lib.hid hf'
              clear hf hf' hag HST HNO
              go_wp2
              go_ret2
              exact ⟨by simp [HF.out], HJ.out.2.2.2.2⟩
          · obtain rfl : t = gs.length := by omega
            have hya : agrAll gs (a, b) = true := by
              have h := hall
              unfold AllYes at h
              rw [List.take_length] at h
              exact h
            have HYA := Lib.hid hya
            clear hya
            go_wp2
            go_ret2
            exact ⟨by simp [HYA.out], HI.out.2.2.2.2⟩
  · have hres : agreesOf n gs (a, b) = (false, E) := by rw [agreesOf, hE, if_pos h0]
    rw [hres]
    have hb : (E == 0) = false := by simp [h0]
    have hb2 : (E != 0) = true := by simp [h0]
    clear hres hE
    have k0 := HI.out.c (b := w.heap.size) (o := 0) (v := .int .i64 n) (by simp)
    have k1 := HI.out.c (b := w.heap.size) (o := 1) (v := .slice q gs.length c) (by simp)
    have k2 := HI.out.c (b := w.heap.size + 1) (o := 0) (v := .int .i64 a) (by simp)
    have k3 := HI.out.c (b := w.heap.size + 1) (o := 1) (v := .int .i64 b) (by simp)
    go_enter Try.func22, Try.ntmps22
    go_wp2_with (go_at_call 33; refine (HI.out.scalar (V' := .int .i64 E) (rCheck_any n q c gs _ (HI.out.1 (q, c, gs) (by simp)).1) (by rw [HE.out])).mono ?_; rintro e W ⟨rfl, hI⟩; replace HI := Lib.hid hI; clear hI k0 k1 k2 k3; have k0 := HI.out.c (b := w.heap.size) (o := 0) (v := .int .i64 n) (by simp); have k1 := HI.out.c (b := w.heap.size) (o := 1) (v := .slice q gs.length c) (by simp); have k2 := HI.out.c (b := w.heap.size + 1) (o := 0) (v := .int .i64 a) (by simp); have k3 := HI.out.c (b := w.heap.size + 1) (o := 1) (v := .int .i64 b) (by simp))
    go_ret2
    exact ⟨rfl, HI.out.2.2.2.2⟩

set_option maxRecDepth 100000 in
set_option maxHeartbeats 1000000 in
theorem rOpposite_any (g : Gl) (w : World) :
    Calls Try.prog 26 #[.agg #[.int .i64 g.1, .int .i64 g.2.1, .int .i64 g.2.2]] w fun e w' => e = .returned (.tuple #[.agg #[.int .i64 (oppositeOf g).1.1, .int .i64 (oppositeOf g).1.2.1, .int .i64 (oppositeOf g).1.2.2], .int .i64 (oppositeOf g).2]) ∧ Below w.heap.size w w' := by
  have hb0 := below_two w (.cells #[.int .i64 g.1, .int .i64 g.2.1, .int .i64 g.2.2] 47) (.cells #[.int .i64 0, .int .i64 0, .int .i64 0] 47)
  have HB0 := Lib.hid hb0
  clear hb0
  by_cases h0 : errG g = 0
  · have hb : (errG g != 0) = false := by simp [h0]
    obtain ⟨⟨⟨o1, o1'⟩, o2, o2'⟩, o3, o3'⟩ := errG_ok h0
    have hres : oppositeOf g = (oppG g, 0) := by rw [oppositeOf, if_neg (by simp [h0])]
    have HRES := Lib.hid hres
    have n1 : IntKind.i64.wrap (-g.1) = -g.1 := IntWalk.i64_in _ ⟨by omega, by omega⟩
    have n2 : IntKind.i64.wrap (-g.2.1) = -g.2.1 := IntWalk.i64_in _ ⟨by omega, by omega⟩
    have n3 : IntKind.i64.wrap (-g.2.2) = -g.2.2 := IntWalk.i64_in _ ⟨by omega, by omega⟩
    have n4 : IntKind.i64.wrap (-g.2.2 - 1) = -g.2.2 - 1 := IntWalk.i64_in _ ⟨by omega, by omega⟩
    clear hres h0
    go_enter Try.func26, Try.ntmps26
    go_wp2_with (go_at_call 102; refine (rchecked_any g _).mono ?_; rintro e w1 ⟨rfl, hb1⟩; obtain ⟨hcc, hf⟩ := bcell hb1; have hz0 : w.heap.size + 1 < w1.heap.size := (by have := hb1.size; simp at this; omega); have z0 : w1.cell? ⟨w.heap.size, 0, none⟩ = some (.int .i64 g.1) := (hcc _ _ (by simp; omega)).trans (by simp); have z1 : w1.cell? ⟨w.heap.size, 1, none⟩ = some (.int .i64 g.2.1) := (hcc _ _ (by simp; omega)).trans (by simp); have z2 : w1.cell? ⟨w.heap.size, 2, none⟩ = some (.int .i64 g.2.2) := (hcc _ _ (by simp; omega)).trans (by simp))
    obtain ⟨k0, k1, k2⟩ := cells3 (w := w1) (B := w.heap.size + 1) (.int .i64 (-g.1)) (.int .i64 (-g.2.1)) (.int .i64 (-g.2.2 - 1)) ((hcc _ _ (by simp)).trans (by simp; rfl)) ((hcc _ _ (by simp)).trans (by simp; rfl)) ((hcc _ _ (by simp)).trans (by simp; rfl))
    generalize hW : (((w1.setCell ⟨w.heap.size + 1, 0, none⟩ (.int .i64 (-g.1))).setCell ⟨w.heap.size + 1, 1, none⟩ (.int .i64 (-g.2.1))).setCell ⟨w.heap.size + 1, 2, none⟩ (.int .i64 (-g.2.2 - 1))) = W at *
    refine bodyPost_ret (by simp [results, Try.results26, go_sem, k0, k1, k2]; try rfl) rfl ?_
    exact ⟨by rw [HRES.out] <;> try rfl, by rw [← hW]; exact ((((al0 HB0.out hb1 (by simp <;> omega)).setCell (Nat.le_succ _) _).setCell (Nat.le_succ _) _).setCell (Nat.le_succ _) _)⟩
  · have hb : (errG g != 0) = true := by simp [h0]
    have hres : oppositeOf g = ((0, 0, 0), errG g) := by rw [oppositeOf, if_pos h0]
    have HRES := Lib.hid hres
    clear hres h0
    go_enter Try.func26, Try.ntmps26
    go_wp2_with (go_at_call 102; refine (rchecked_any g _).mono ?_; rintro e w1 ⟨rfl, hb1⟩; obtain ⟨hcc, hf⟩ := bcell hb1; have hz0 : w.heap.size + 1 < w1.heap.size := (by have := hb1.size; simp at this; omega))
    obtain ⟨k0, k1, k2⟩ := cells3 (w := w1) (B := w.heap.size + 1) (.int .i64 0) (.int .i64 0) (.int .i64 0) (((hcc _ _ (by simp)).trans (by simp; rfl))) (((hcc _ _ (by simp)).trans (by simp; rfl))) (((hcc _ _ (by simp)).trans (by simp; rfl)))
    generalize hW : (((w1.setCell ⟨w.heap.size + 1, 0, none⟩ (.int .i64 0)).setCell ⟨w.heap.size + 1, 1, none⟩ (.int .i64 0)).setCell ⟨w.heap.size + 1, 2, none⟩ (.int .i64 0)) = W at *
    refine bodyPost_ret (by simp [results, Try.results26, go_sem, k0, k1, k2]; try rfl) rfl ?_
    exact ⟨by rw [HRES.out] <;> try rfl, by rw [← hW]; exact ((((al0 HB0.out hb1 (by simp <;> omega)).setCell (Nat.le_succ _) _).setCell (Nat.le_succ _) _).setCell (Nat.le_succ _) _)⟩
end Go.Proofs.Ytcalipoknbbaaaa
namespace Go.Proofs.Ytcalipoknbbaaaa
open Go.RowKit
set_option linter.unusedSimpArgs false
set_option linter.unusedVariables false

def cntK (R : List Pl) (g : Gl) (k : Nat) : Nat := (R.take k).countP (agr g)
theorem cntK_succ (R : List Pl) (g : Gl) (k : Nat) (h : k < R.length) : cntK R g (k + 1) = cntK R g k + (if agr g (R.getD k (0, 0)) then 1 else 0) := by
  rw [cntK, cntK, List.take_succ_eq_append_getElem h, List.countP_append, List.countP_singleton, getD_eq R k (0, 0) h]
theorem cntK_le (R : List Pl) (g : Gl) (k : Nat) : cntK R g k ≤ k := Nat.le_trans List.countP_le_length (List.length_take_le _ _)
theorem cntK_all (m : Nat) (gs : List Gl) (g : Gl) : cntK (regL m gs) g (regL m gs).length = yesOf m gs g := by
  rw [cntK, List.take_length, yesOf, List.countP_eq_length_filter]
theorem regL_okR (n : Nat) (gs : List Gl) (h7 : n ≤ 7) : ∀ p ∈ regL n gs, okP p := by
  intro p hp
  have := mem_grid.1 (List.mem_filter.1 hp).1
  exact ⟨⟨by omega, by omega⟩, ⟨by omega, by omega⟩⟩
theorem no_loss (m : Nat) (gs : List Gl) (g : Gl) : ((regL m gs).length : Int) - (yesOf m gs g : Int) = (lossOf m gs g : Int) := by
  have := yes_loss m gs g
  omega

set_option maxRecDepth 100000 in
set_option maxHeartbeats 4000000 in
theorem halves_any (m : Nat) (q : Option Addr) (c : Nat) (gs : List Gl) (g : Gl) (w : World) (hm : m ≤ 7) (hr : RowG w q gs) (hq : q = none → c = 0) (hgs : ∀ g ∈ gs, okG g) (hg : okG g) (hl : gs.length ≤ 1000) :
    Calls Try.prog 104 #[.agg #[.int .i64 m, .slice q gs.length c], .agg #[.int .i64 g.1, .int .i64 g.2.1, .int .i64 g.2.2]] w fun e w' => e = .returned (.tuple #[.int .i64 (yesOf m gs g : Nat), .int .i64 (lossOf m gs g : Nat)]) ∧ Below w.heap.size w w' := by
  obtain ⟨ga, gb, gc⟩ := g
  have HI := Lib.hid (Inv.twoHG w m q c gs ga gb gc hr hq)
  have k0 := HI.out.c (b := w.heap.size) (o := 0) (v := .int .i64 m) (by simp)
  have k1 := HI.out.c (b := w.heap.size) (o := 1) (v := .slice q gs.length c) (by simp)
  have hnl := no_loss m gs (ga, gb, gc)
  have hca := cntK_all m gs (ga, gb, gc)
  have hrl := regL_len m gs hm
  have hro := regL_okR m gs hm
  have cR := fun (W : World) (h : RowG W q gs) => rregion_any m q c gs W hm h hgs hl
  generalize regL m gs = R at *
  have HNL := Lib.hid hnl
  have HCA := Lib.hid hca
  have HRO := Lib.hid hro
  have CR := Lib.hid cR
  have HG := Lib.hid hg
  clear hr hq hgs hg hnl hca hro cR
  go_enter Try.func104, Try.ntmps104
  go_upto_region 4 with (go_at_call 99; refine (HI.out.places (CR.out _ (HI.out.1 (q, c, gs) (by simp)).1)).mono ?_; rintro e W ⟨q3, c3, rfl, hI⟩; replace HI := Lib.hid hI; clear hI k0 k1)
  go_loopw [7, 8] (fun n i wr => ∃ k : Nat, k ≤ R.length ∧ i = .int .i64 k ∧ n = .int .i64 (cntK R (ga, gb, gc) k : Nat) ∧ Inv w wr [(q, c, gs)] [(q3, R)] [] [(w.heap.size + 1, 2, .int .i64 gc), (w.heap.size + 1, 1, .int .i64 gb), (w.heap.size + 1, 0, .int .i64 ga), (w.heap.size, 1, .slice q gs.length c), (w.heap.size, 0, .int .i64 m)]) (fun _ i _ => R.length - (intOf i).toNat)
  case atStart => exact ⟨0, Nat.zero_le _, rfl, rfl, HI.out⟩
  case round =>
    clear HI
    obtain ⟨k, hk, rfl, rfl, hI⟩ := hrel
    have HI := Lib.hid hI
    clear hI
    have hcl := cntK_le R (ga, gb, gc) k
    by_cases hlt : k < R.length
    · obtain ⟨bb, off, e, hb, h1, h2⟩ := (HI.out.2.1 (q3, R) (by simp)).at hlt (Nat.le_refl _) (Below.refl _ _)
      subst e
      have hst := cntK_succ R (ga, gb, gc) k hlt
      have hpo := HRO.out _ (getD_mem R k (0, 0) hlt)
      generalize R.getD k (0, 0) = p at *
      obtain ⟨p1, p2⟩ := p
      dsimp only at h1 h2
      have HST := Lib.hid hst
      have HID := Lib.hid (HI.out.go (Below.refl _ _).drew)
      have hT := ragrees_any (ga, gb, gc) (p1, p2) wr.drew hpo HG.out
      have HT := Lib.hid hT
      clear hst hT
      have f1 := HI.out.c (b := w.heap.size + 1) (o := 0) (v := .int .i64 ga) (by simp)
      have f2 := HI.out.c (b := w.heap.size + 1) (o := 1) (v := .int .i64 gb) (by simp)
      have f3 := HI.out.c (b := w.heap.size + 1) (o := 2) (v := .int .i64 gc) (by simp)
      go_upto_region 6 with fail
      go_region_held3 (fun W => W.cell? ⟨w.heap.size + 1, 0, none⟩ = some (.int .i64 ga) ∧ W.cell? ⟨w.heap.size + 1, 1, none⟩ = some (.int .i64 gb) ∧ W.cell? ⟨w.heap.size + 1, 2, none⟩ = some (.int .i64 gc) ∧ W.cell? ⟨bb, off + k * 2, none⟩ = some (.int .i64 p1) ∧ W.cell? ⟨bb, off + k * 2 + 1, none⟩ = some (.int .i64 p2)) (first | exact ⟨f1, f2, f3, h1, h2⟩ | exact ⟨j1, j2, j3, j4, j5⟩ | go_keep)
        (first
        | (go_at_call 98; refine HT.out.mono ?_; rintro e V ⟨rfl, hbv⟩; have HJ := Lib.hid (HID.out.go hbv); have j1 := HJ.out.c (b := w.heap.size + 1) (o := 0) (v := .int .i64 ga) (by simp); have j2 := HJ.out.c (b := w.heap.size + 1) (o := 1) (v := .int .i64 gb) (by simp); have j3 := HJ.out.c (b := w.heap.size + 1) (o := 2) (v := .int .i64 gc) (by simp); have j4 := (hbv.cell (p := ⟨bb, off + k * 2, none⟩) hb).trans h1; have j5 := (hbv.cell (p := ⟨bb, off + k * 2 + 1, none⟩) hb).trans h2)
        | fail)
      clear f1 f2 f3 h1 h2 j1 j2 j3 j4 j5 HI HID HT
      cases hag : agr (ga, gb, gc) (p1, p2) with
      | true =>
        have e := HST.out
        rw [if_pos hag] at e
        have HE := Lib.hid e
        clear e hag HST
        go_wp2
        go_roundw
        case rel => exact ⟨k + 1, hlt, by go_num, by rw [HE.out]; go_num, HJ.out⟩
        case measure => simp [intOf]; omega
      | false =>
        have e := HST.out
        rw [if_neg (by simp [hag])] at e
        have HE := Lib.hid e
        clear e hag HST
        go_wp2
        go_roundw
        case rel => exact ⟨k + 1, hlt, by go_num, by rw [HE.out]; rfl, HJ.out⟩
        case measure => simp [intOf]; omega
    · obtain rfl : k = R.length := by omega
      have e1 := HCA.out
      rw [e1] at hcl ⊢
      have hn := HNL.out
      have hw : IntKind.i64.wrap ((R.length : Int) - (yesOf m gs (ga, gb, gc) : Nat)) = (lossOf m gs (ga, gb, gc) : Nat) := by rw [IntWalk.i64_in _ ⟨by omega, by omega⟩, hn]
      clear e1 hn
      go_wp2
      go_ret2
      exact ⟨rfl, HI.out.2.2.2.2⟩

set_option maxRecDepth 100000 in
set_option maxHeartbeats 2000000 in
theorem rLoss_any (n : Int) (q : Option Addr) (c : Nat) (gs : List Gl) (g : Gl) (w : World) (hr : RowG w q gs) (hq : q = none → c = 0) :
    Calls Try.prog 31 #[.agg #[.int .i64 n, .slice q gs.length c], .agg #[.int .i64 g.1, .int .i64 g.2.1, .int .i64 g.2.2]] w fun e w' => e = .returned (.tuple #[.int .i64 (lossR n gs g).1, .int .i64 (lossR n gs g).2]) ∧ Below w.heap.size w w' := by
  obtain ⟨ga, gb, gc⟩ := g
  have HI := Lib.hid (Inv.twoHG w n q c gs ga gb gc hr hq)
  have k0 := HI.out.c (b := w.heap.size) (o := 0) (v := .int .i64 n) (by simp)
  have k1 := HI.out.c (b := w.heap.size) (o := 1) (v := .slice q gs.length c) (by simp)
  have k2 := HI.out.c (b := w.heap.size + 1) (o := 0) (v := .int .i64 ga) (by simp)
  have k3 := HI.out.c (b := w.heap.size + 1) (o := 1) (v := .int .i64 gb) (by simp)
  have k4 := HI.out.c (b := w.heap.size + 1) (o := 2) (v := .int .i64 gc) (by simp)
  clear hr hq
  obtain ⟨E, hE⟩ : ∃ E, errH n gs = E := ⟨_, rfl⟩
  obtain ⟨F, hF⟩ : ∃ F, errG (ga, gb, gc) = F := ⟨_, rfl⟩
  have HE := Lib.hid hE
  have HF := Lib.hid hF
  by_cases h0 : E = 0
  · subst h0
    by_cases h1 : F = 0
    · subst h1
      obtain ⟨o1, o2, o3, o4⟩ := errH_ok hE
      have hgs := okGs_of o4
      have hog := (errG_ok hF).1
      obtain ⟨m, hm⟩ := Int.eq_ofNat_of_zero_le (show 0 ≤ n by omega)
      have hres : lossR n gs (ga, gb, gc) = (((lossOf m gs (ga, gb, gc) : Nat) : Int), 0) := by rw [lossR, if_neg (show ¬ errH n gs ≠ 0 by simp [hE]), if_neg (show ¬ errG (ga, gb, gc) ≠ 0 by simp [hF]), hm]; rfl
      rw [hres]
      have HGS := Lib.hid hgs
      have HOG := Lib.hid hog
      have hm7 : m ≤ 7 := by omega
      have cH := fun (W : World) (h : RowG W q gs ∧ (q = none → c = 0)) => halves_any m q c gs (ga, gb, gc) W hm7 h.1 h.2 HGS.out HOG.out (by omega)
      rw [← hm] at cH
      have CH := Lib.hid cH
      clear hres hE hF o4 hgs hog cH hm
      go_enter Try.func31, Try.ntmps31
      go_wp2_with (first
        | (go_at_call 33; refine (HI.out.scalar (V' := .int .i64 0) (rCheck_any n q c gs _ (HI.out.1 (q, c, gs) (by simp)).1) (by rw [HE.out])).mono ?_; rintro e W ⟨rfl, hI⟩; replace HI := Lib.hid hI; clear hI k0 k1 k2 k3 k4; have k0 := HI.out.c (b := w.heap.size) (o := 0) (v := .int .i64 n) (by simp); have k1 := HI.out.c (b := w.heap.size) (o := 1) (v := .slice q gs.length c) (by simp); have k2 := HI.out.c (b := w.heap.size + 1) (o := 0) (v := .int .i64 ga) (by simp); have k3 := HI.out.c (b := w.heap.size + 1) (o := 1) (v := .int .i64 gb) (by simp); have k4 := HI.out.c (b := w.heap.size + 1) (o := 2) (v := .int .i64 gc) (by simp))
        | (go_at_call 102; refine (HI.out.scalar (V' := .int .i64 0) (rchecked_any (ga, gb, gc) _) (by rw [HF.out])).mono ?_; rintro e W ⟨rfl, hI⟩; replace HI := Lib.hid hI; clear hI k0 k1 k2 k3 k4; have k0 := HI.out.c (b := w.heap.size) (o := 0) (v := .int .i64 n) (by simp); have k1 := HI.out.c (b := w.heap.size) (o := 1) (v := .slice q gs.length c) (by simp); have k2 := HI.out.c (b := w.heap.size + 1) (o := 0) (v := .int .i64 ga) (by simp); have k3 := HI.out.c (b := w.heap.size + 1) (o := 1) (v := .int .i64 gb) (by simp); have k4 := HI.out.c (b := w.heap.size + 1) (o := 2) (v := .int .i64 gc) (by simp))
        | (go_at_call 104; refine (HI.out.scalar (CH.out _ (HI.out.1 (q, c, gs) (by simp))) rfl).mono ?_; rintro e W ⟨rfl, hI⟩; replace HI := Lib.hid hI; clear hI))
      go_ret2
      exact ⟨rfl, HI.out.2.2.2.2⟩
    · have hres : lossR n gs (ga, gb, gc) = (0, F) := by rw [lossR, if_neg (by simp [hE]), hF, if_pos h1]
      rw [hres]
      have hb : (F != 0) = true := by simp [h1]
      have hb2 : (F == 0) = false := by simp [h1]
      clear hres hE hF
      go_enter Try.func31, Try.ntmps31
      go_wp2_with (first
        | (go_at_call 33; refine (HI.out.scalar (V' := .int .i64 0) (rCheck_any n q c gs _ (HI.out.1 (q, c, gs) (by simp)).1) (by rw [HE.out])).mono ?_; rintro e W ⟨rfl, hI⟩; replace HI := Lib.hid hI; clear hI k0 k1 k2 k3 k4; have k0 := HI.out.c (b := w.heap.size) (o := 0) (v := .int .i64 n) (by simp); have k1 := HI.out.c (b := w.heap.size) (o := 1) (v := .slice q gs.length c) (by simp); have k2 := HI.out.c (b := w.heap.size + 1) (o := 0) (v := .int .i64 ga) (by simp); have k3 := HI.out.c (b := w.heap.size + 1) (o := 1) (v := .int .i64 gb) (by simp); have k4 := HI.out.c (b := w.heap.size + 1) (o := 2) (v := .int .i64 gc) (by simp))
        | (go_at_call 102; refine (HI.out.scalar (V' := .int .i64 F) (rchecked_any (ga, gb, gc) _) (by rw [HF.out])).mono ?_; rintro e W ⟨rfl, hI⟩; replace HI := Lib.hid hI; clear hI k0 k1 k2 k3 k4; have k0 := HI.out.c (b := w.heap.size) (o := 0) (v := .int .i64 n) (by simp); have k1 := HI.out.c (b := w.heap.size) (o := 1) (v := .slice q gs.length c) (by simp); have k2 := HI.out.c (b := w.heap.size + 1) (o := 0) (v := .int .i64 ga) (by simp); have k3 := HI.out.c (b := w.heap.size + 1) (o := 1) (v := .int .i64 gb) (by simp); have k4 := HI.out.c (b := w.heap.size + 1) (o := 2) (v := .int .i64 gc) (by simp)))
      go_ret2
      exact ⟨rfl, HI.out.2.2.2.2⟩
  · have hres : lossR n gs (ga, gb, gc) = (0, E) := by rw [lossR, hE, if_pos h0]
    rw [hres]
    have hb : (E != 0) = true := by simp [h0]
    have hb2 : (E == 0) = false := by simp [h0]
    clear hres hE hF
    go_enter Try.func31, Try.ntmps31
    go_wp2_with (go_at_call 33; refine (HI.out.scalar (V' := .int .i64 E) (rCheck_any n q c gs _ (HI.out.1 (q, c, gs) (by simp)).1) (by rw [HE.out])).mono ?_; rintro e W ⟨rfl, hI⟩; replace HI := Lib.hid hI; clear hI k0 k1 k2 k3 k4; have k0 := HI.out.c (b := w.heap.size) (o := 0) (v := .int .i64 n) (by simp); have k1 := HI.out.c (b := w.heap.size) (o := 1) (v := .slice q gs.length c) (by simp); have k2 := HI.out.c (b := w.heap.size + 1) (o := 0) (v := .int .i64 ga) (by simp); have k3 := HI.out.c (b := w.heap.size + 1) (o := 1) (v := .int .i64 gb) (by simp); have k4 := HI.out.c (b := w.heap.size + 1) (o := 2) (v := .int .i64 gc) (by simp))
    go_ret2
    exact ⟨rfl, HI.out.2.2.2.2⟩

set_option maxRecDepth 100000 in
set_option maxHeartbeats 2000000 in
theorem rKnown_any (n : Int) (q : Option Addr) (c : Nat) (gs : List Gl) (g : Gl) (w : World) (hr : RowG w q gs) (hq : q = none → c = 0) :
    Calls Try.prog 29 #[.agg #[.int .i64 n, .slice q gs.length c], .agg #[.int .i64 g.1, .int .i64 g.2.1, .int .i64 g.2.2]] w fun e w' => e = .returned (.tuple #[.int .i64 (knownR n gs g).1, .int .i64 (knownR n gs g).2]) ∧ Below w.heap.size w w' := by
  obtain ⟨ga, gb, gc⟩ := g
  have HI := Lib.hid (Inv.twoHG w n q c gs ga gb gc hr hq)
  have k0 := HI.out.c (b := w.heap.size) (o := 0) (v := .int .i64 n) (by simp)
  have k1 := HI.out.c (b := w.heap.size) (o := 1) (v := .slice q gs.length c) (by simp)
  have k2 := HI.out.c (b := w.heap.size + 1) (o := 0) (v := .int .i64 ga) (by simp)
  have k3 := HI.out.c (b := w.heap.size + 1) (o := 1) (v := .int .i64 gb) (by simp)
  have k4 := HI.out.c (b := w.heap.size + 1) (o := 2) (v := .int .i64 gc) (by simp)
  clear hr hq
  obtain ⟨E, hE⟩ : ∃ E, errH n gs = E := ⟨_, rfl⟩
  obtain ⟨F, hF⟩ : ∃ F, errG (ga, gb, gc) = F := ⟨_, rfl⟩
  have HE := Lib.hid hE
  have HF := Lib.hid hF
  by_cases h0 : E = 0
  · subst h0
    by_cases h1 : F = 0
    · subst h1
      obtain ⟨o1, o2, o3, o4⟩ := errH_ok hE
      have hgs := okGs_of o4
      have hog := (errG_ok hF).1
      obtain ⟨m, hm⟩ := Int.eq_ofNat_of_zero_le (show 0 ≤ n by omega)
      have hm7 : m ≤ 7 := by omega
      have hl2 : (lossR n gs (ga, gb, gc)).2 = 0 := by rw [lossR, if_neg (show ¬ errH n gs ≠ 0 by simp [hE]), if_neg (show ¬ errG (ga, gb, gc) ≠ 0 by simp [hF])]
      have htn : n.toNat = m := by rw [hm]; rfl
      have hres : knownR n gs (ga, gb, gc) = if (regL m gs).length = 0 then (0, 12) else if lossOf m gs (ga, gb, gc) = 0 then (1, 0) else if yesOf m gs (ga, gb, gc) = 0 then (-1, 0) else (0, 0) := by
        have hnl := no_loss m gs (ga, gb, gc)
        rw [knownR, if_neg (show ¬ (lossR n gs (ga, gb, gc)).2 ≠ 0 by simp [hl2]), htn, cnt_reg]
        by_cases a1 : (regL m gs).length = 0
        · rw [if_pos a1, if_pos a1]
        · rw [if_neg a1, if_neg a1]
          by_cases a2 : lossOf m gs (ga, gb, gc) = 0
          · rw [if_pos a2, if_pos a2]
          · rw [if_neg a2, if_neg a2]
            by_cases a3 : yesOf m gs (ga, gb, gc) = 0
            · rw [if_pos a3, if_pos (by omega)]
            · rw [if_neg a3, if_neg (by omega)]
      rw [hres]
      have HGS := Lib.hid hgs
      have HOG := Lib.hid hog
      have cH := fun (W : World) (h : RowG W q gs ∧ (q = none → c = 0)) => halves_any m q c gs (ga, gb, gc) W hm7 h.1 h.2 HGS.out HOG.out (by omega)
      have cR := fun (W : World) (h : RowG W q gs) => rregion_any m q c gs W hm7 h HGS.out (by omega)
      rw [← hm] at cH cR
      generalize yesOf m gs (ga, gb, gc) = Y at *
      generalize lossOf m gs (ga, gb, gc) = L at *
      generalize regL m gs = R at *
      have CH := Lib.hid cH
      have CR := Lib.hid cR
      clear hres hE hF o4 hgs hog cH cR hm hl2 htn
      by_cases a1 : R.length = 0
      · rw [if_pos a1]
        have hz : ((R.length : Int) == 0) = true := by simp [a1]
        clear a1
        go_enter Try.func29, Try.ntmps29
        go_wp2_with (first
          | (go_at_call 33; refine (HI.out.scalar (V' := .int .i64 0) (rCheck_any n q c gs _ (HI.out.1 (q, c, gs) (by simp)).1) (by rw [HE.out])).mono ?_; rintro e W ⟨rfl, hI⟩; replace HI := Lib.hid hI; clear hI k0 k1 k2 k3 k4; have k0 := HI.out.c (b := w.heap.size) (o := 0) (v := .int .i64 n) (by simp); have k1 := HI.out.c (b := w.heap.size) (o := 1) (v := .slice q gs.length c) (by simp); have k2 := HI.out.c (b := w.heap.size + 1) (o := 0) (v := .int .i64 ga) (by simp); have k3 := HI.out.c (b := w.heap.size + 1) (o := 1) (v := .int .i64 gb) (by simp); have k4 := HI.out.c (b := w.heap.size + 1) (o := 2) (v := .int .i64 gc) (by simp))
          | (go_at_call 102; refine (HI.out.scalar (V' := .int .i64 0) (rchecked_any (ga, gb, gc) _) (by rw [HF.out])).mono ?_; rintro e W ⟨rfl, hI⟩; replace HI := Lib.hid hI; clear hI k0 k1 k2 k3 k4; have k0 := HI.out.c (b := w.heap.size) (o := 0) (v := .int .i64 n) (by simp); have k1 := HI.out.c (b := w.heap.size) (o := 1) (v := .slice q gs.length c) (by simp); have k2 := HI.out.c (b := w.heap.size + 1) (o := 0) (v := .int .i64 ga) (by simp); have k3 := HI.out.c (b := w.heap.size + 1) (o := 1) (v := .int .i64 gb) (by simp); have k4 := HI.out.c (b := w.heap.size + 1) (o := 2) (v := .int .i64 gc) (by simp))
          | (go_at_call 99; refine (HI.out.places (CR.out _ (HI.out.1 (q, c, gs) (by simp)).1)).mono ?_; rintro e W ⟨q3, c3, rfl, hI⟩; replace HI := Lib.hid hI; clear hI k0 k1 k2 k3 k4; have k0 := HI.out.c (b := w.heap.size) (o := 0) (v := .int .i64 n) (by simp); have k1 := HI.out.c (b := w.heap.size) (o := 1) (v := .slice q gs.length c) (by simp); have k2 := HI.out.c (b := w.heap.size + 1) (o := 0) (v := .int .i64 ga) (by simp); have k3 := HI.out.c (b := w.heap.size + 1) (o := 1) (v := .int .i64 gb) (by simp); have k4 := HI.out.c (b := w.heap.size + 1) (o := 2) (v := .int .i64 gc) (by simp)))
        go_ret2
        exact ⟨rfl, HI.out.2.2.2.2⟩
      · rw [if_neg a1]
        have hz : ((R.length : Int) == 0) = false := beq_eq_false_iff_ne.2 (by omega)
        by_cases a2 : L = 0
        · rw [if_pos a2]
          subst a2
          go_enter Try.func29, Try.ntmps29
          go_wp2_with (first
            | (go_at_call 33; refine (HI.out.scalar (V' := .int .i64 0) (rCheck_any n q c gs _ (HI.out.1 (q, c, gs) (by simp)).1) (by rw [HE.out])).mono ?_; rintro e W ⟨rfl, hI⟩; replace HI := Lib.hid hI; clear hI k0 k1 k2 k3 k4; have k0 := HI.out.c (b := w.heap.size) (o := 0) (v := .int .i64 n) (by simp); have k1 := HI.out.c (b := w.heap.size) (o := 1) (v := .slice q gs.length c) (by simp); have k2 := HI.out.c (b := w.heap.size + 1) (o := 0) (v := .int .i64 ga) (by simp); have k3 := HI.out.c (b := w.heap.size + 1) (o := 1) (v := .int .i64 gb) (by simp); have k4 := HI.out.c (b := w.heap.size + 1) (o := 2) (v := .int .i64 gc) (by simp))
            | (go_at_call 102; refine (HI.out.scalar (V' := .int .i64 0) (rchecked_any (ga, gb, gc) _) (by rw [HF.out])).mono ?_; rintro e W ⟨rfl, hI⟩; replace HI := Lib.hid hI; clear hI k0 k1 k2 k3 k4; have k0 := HI.out.c (b := w.heap.size) (o := 0) (v := .int .i64 n) (by simp); have k1 := HI.out.c (b := w.heap.size) (o := 1) (v := .slice q gs.length c) (by simp); have k2 := HI.out.c (b := w.heap.size + 1) (o := 0) (v := .int .i64 ga) (by simp); have k3 := HI.out.c (b := w.heap.size + 1) (o := 1) (v := .int .i64 gb) (by simp); have k4 := HI.out.c (b := w.heap.size + 1) (o := 2) (v := .int .i64 gc) (by simp))
            | (go_at_call 99; refine (HI.out.places (CR.out _ (HI.out.1 (q, c, gs) (by simp)).1)).mono ?_; rintro e W ⟨q3, c3, rfl, hI⟩; replace HI := Lib.hid hI; clear hI k0 k1 k2 k3 k4; have k0 := HI.out.c (b := w.heap.size) (o := 0) (v := .int .i64 n) (by simp); have k1 := HI.out.c (b := w.heap.size) (o := 1) (v := .slice q gs.length c) (by simp); have k2 := HI.out.c (b := w.heap.size + 1) (o := 0) (v := .int .i64 ga) (by simp); have k3 := HI.out.c (b := w.heap.size + 1) (o := 1) (v := .int .i64 gb) (by simp); have k4 := HI.out.c (b := w.heap.size + 1) (o := 2) (v := .int .i64 gc) (by simp))
            | (go_at_call 104; refine (HI.out.scalar (CH.out _ (HI.out.1 (q, c, gs) (by simp))) rfl).mono ?_; rintro e W ⟨rfl, hI⟩; replace HI := Lib.hid hI; clear hI))
          go_ret2
          exact ⟨rfl, HI.out.2.2.2.2⟩
        · rw [if_neg a2]
          have hz2 : ((L : Int) == 0) = false := beq_eq_false_iff_ne.2 (by omega)
          by_cases a3 : Y = 0
          · rw [if_pos a3]
            subst a3
            go_enter Try.func29, Try.ntmps29
            go_wp2_with (first
              | (go_at_call 33; refine (HI.out.scalar (V' := .int .i64 0) (rCheck_any n q c gs _ (HI.out.1 (q, c, gs) (by simp)).1) (by rw [HE.out])).mono ?_; rintro e W ⟨rfl, hI⟩; replace HI := Lib.hid hI; clear hI k0 k1 k2 k3 k4; have k0 := HI.out.c (b := w.heap.size) (o := 0) (v := .int .i64 n) (by simp); have k1 := HI.out.c (b := w.heap.size) (o := 1) (v := .slice q gs.length c) (by simp); have k2 := HI.out.c (b := w.heap.size + 1) (o := 0) (v := .int .i64 ga) (by simp); have k3 := HI.out.c (b := w.heap.size + 1) (o := 1) (v := .int .i64 gb) (by simp); have k4 := HI.out.c (b := w.heap.size + 1) (o := 2) (v := .int .i64 gc) (by simp))
              | (go_at_call 102; refine (HI.out.scalar (V' := .int .i64 0) (rchecked_any (ga, gb, gc) _) (by rw [HF.out])).mono ?_; rintro e W ⟨rfl, hI⟩; replace HI := Lib.hid hI; clear hI k0 k1 k2 k3 k4; have k0 := HI.out.c (b := w.heap.size) (o := 0) (v := .int .i64 n) (by simp); have k1 := HI.out.c (b := w.heap.size) (o := 1) (v := .slice q gs.length c) (by simp); have k2 := HI.out.c (b := w.heap.size + 1) (o := 0) (v := .int .i64 ga) (by simp); have k3 := HI.out.c (b := w.heap.size + 1) (o := 1) (v := .int .i64 gb) (by simp); have k4 := HI.out.c (b := w.heap.size + 1) (o := 2) (v := .int .i64 gc) (by simp))
              | (go_at_call 99; refine (HI.out.places (CR.out _ (HI.out.1 (q, c, gs) (by simp)).1)).mono ?_; rintro e W ⟨q3, c3, rfl, hI⟩; replace HI := Lib.hid hI; clear hI k0 k1 k2 k3 k4; have k0 := HI.out.c (b := w.heap.size) (o := 0) (v := .int .i64 n) (by simp); have k1 := HI.out.c (b := w.heap.size) (o := 1) (v := .slice q gs.length c) (by simp); have k2 := HI.out.c (b := w.heap.size + 1) (o := 0) (v := .int .i64 ga) (by simp); have k3 := HI.out.c (b := w.heap.size + 1) (o := 1) (v := .int .i64 gb) (by simp); have k4 := HI.out.c (b := w.heap.size + 1) (o := 2) (v := .int .i64 gc) (by simp))
              | (go_at_call 104; refine (HI.out.scalar (CH.out _ (HI.out.1 (q, c, gs) (by simp))) rfl).mono ?_; rintro e W ⟨rfl, hI⟩; replace HI := Lib.hid hI; clear hI))
            go_ret2
            exact ⟨rfl, HI.out.2.2.2.2⟩
          · rw [if_neg a3]
            have hz3 : ((Y : Int) == 0) = false := beq_eq_false_iff_ne.2 (by omega)
            go_enter Try.func29, Try.ntmps29
            go_wp2_with (first
              | (go_at_call 33; refine (HI.out.scalar (V' := .int .i64 0) (rCheck_any n q c gs _ (HI.out.1 (q, c, gs) (by simp)).1) (by rw [HE.out])).mono ?_; rintro e W ⟨rfl, hI⟩; replace HI := Lib.hid hI; clear hI k0 k1 k2 k3 k4; have k0 := HI.out.c (b := w.heap.size) (o := 0) (v := .int .i64 n) (by simp); have k1 := HI.out.c (b := w.heap.size) (o := 1) (v := .slice q gs.length c) (by simp); have k2 := HI.out.c (b := w.heap.size + 1) (o := 0) (v := .int .i64 ga) (by simp); have k3 := HI.out.c (b := w.heap.size + 1) (o := 1) (v := .int .i64 gb) (by simp); have k4 := HI.out.c (b := w.heap.size + 1) (o := 2) (v := .int .i64 gc) (by simp))
              | (go_at_call 102; refine (HI.out.scalar (V' := .int .i64 0) (rchecked_any (ga, gb, gc) _) (by rw [HF.out])).mono ?_; rintro e W ⟨rfl, hI⟩; replace HI := Lib.hid hI; clear hI k0 k1 k2 k3 k4; have k0 := HI.out.c (b := w.heap.size) (o := 0) (v := .int .i64 n) (by simp); have k1 := HI.out.c (b := w.heap.size) (o := 1) (v := .slice q gs.length c) (by simp); have k2 := HI.out.c (b := w.heap.size + 1) (o := 0) (v := .int .i64 ga) (by simp); have k3 := HI.out.c (b := w.heap.size + 1) (o := 1) (v := .int .i64 gb) (by simp); have k4 := HI.out.c (b := w.heap.size + 1) (o := 2) (v := .int .i64 gc) (by simp))
              | (go_at_call 99; refine (HI.out.places (CR.out _ (HI.out.1 (q, c, gs) (by simp)).1)).mono ?_; rintro e W ⟨q3, c3, rfl, hI⟩; replace HI := Lib.hid hI; clear hI k0 k1 k2 k3 k4; have k0 := HI.out.c (b := w.heap.size) (o := 0) (v := .int .i64 n) (by simp); have k1 := HI.out.c (b := w.heap.size) (o := 1) (v := .slice q gs.length c) (by simp); have k2 := HI.out.c (b := w.heap.size + 1) (o := 0) (v := .int .i64 ga) (by simp); have k3 := HI.out.c (b := w.heap.size + 1) (o := 1) (v := .int .i64 gb) (by simp); have k4 := HI.out.c (b := w.heap.size + 1) (o := 2) (v := .int .i64 gc) (by simp))
              | (go_at_call 104; refine (HI.out.scalar (CH.out _ (HI.out.1 (q, c, gs) (by simp))) rfl).mono ?_; rintro e W ⟨rfl, hI⟩; replace HI := Lib.hid hI; clear hI))
            go_ret2
            exact ⟨rfl, HI.out.2.2.2.2⟩
    · have hres : knownR n gs (ga, gb, gc) = (0, F) := by
        have : (lossR n gs (ga, gb, gc)).2 = F := by rw [lossR, if_neg (show ¬ errH n gs ≠ 0 by simp [hE]), hF, if_pos h1]
        rw [knownR, this, if_pos h1]
      rw [hres]
      have hb : (F != 0) = true := by simp [h1]
      have hb2 : (F == 0) = false := by simp [h1]
      clear hres hE hF
      go_enter Try.func29, Try.ntmps29
      go_wp2_with (first
        | (go_at_call 33; refine (HI.out.scalar (V' := .int .i64 0) (rCheck_any n q c gs _ (HI.out.1 (q, c, gs) (by simp)).1) (by rw [HE.out])).mono ?_; rintro e W ⟨rfl, hI⟩; replace HI := Lib.hid hI; clear hI k0 k1 k2 k3 k4; have k0 := HI.out.c (b := w.heap.size) (o := 0) (v := .int .i64 n) (by simp); have k1 := HI.out.c (b := w.heap.size) (o := 1) (v := .slice q gs.length c) (by simp); have k2 := HI.out.c (b := w.heap.size + 1) (o := 0) (v := .int .i64 ga) (by simp); have k3 := HI.out.c (b := w.heap.size + 1) (o := 1) (v := .int .i64 gb) (by simp); have k4 := HI.out.c (b := w.heap.size + 1) (o := 2) (v := .int .i64 gc) (by simp))
        | (go_at_call 102; refine (HI.out.scalar (V' := .int .i64 F) (rchecked_any (ga, gb, gc) _) (by rw [HF.out])).mono ?_; rintro e W ⟨rfl, hI⟩; replace HI := Lib.hid hI; clear hI k0 k1 k2 k3 k4; have k0 := HI.out.c (b := w.heap.size) (o := 0) (v := .int .i64 n) (by simp); have k1 := HI.out.c (b := w.heap.size) (o := 1) (v := .slice q gs.length c) (by simp); have k2 := HI.out.c (b := w.heap.size + 1) (o := 0) (v := .int .i64 ga) (by simp); have k3 := HI.out.c (b := w.heap.size + 1) (o := 1) (v := .int .i64 gb) (by simp); have k4 := HI.out.c (b := w.heap.size + 1) (o := 2) (v := .int .i64 gc) (by simp)))
      go_ret2
      exact ⟨rfl, HI.out.2.2.2.2⟩
  · have hres : knownR n gs (ga, gb, gc) = (0, E) := by
      have : (lossR n gs (ga, gb, gc)).2 = E := by rw [lossR, hE, if_pos h0]
      rw [knownR, this, if_pos h0]
    rw [hres]
    have hb : (E != 0) = true := by simp [h0]
    have hb2 : (E == 0) = false := by simp [h0]
    clear hres hE hF
    go_enter Try.func29, Try.ntmps29
    go_wp2_with (go_at_call 33; refine (HI.out.scalar (V' := .int .i64 E) (rCheck_any n q c gs _ (HI.out.1 (q, c, gs) (by simp)).1) (by rw [HE.out])).mono ?_; rintro e W ⟨rfl, hI⟩; replace HI := Lib.hid hI; clear hI k0 k1 k2 k3 k4; have k0 := HI.out.c (b := w.heap.size) (o := 0) (v := .int .i64 n) (by simp); have k1 := HI.out.c (b := w.heap.size) (o := 1) (v := .slice q gs.length c) (by simp); have k2 := HI.out.c (b := w.heap.size + 1) (o := 0) (v := .int .i64 ga) (by simp); have k3 := HI.out.c (b := w.heap.size + 1) (o := 1) (v := .int .i64 gb) (by simp); have k4 := HI.out.c (b := w.heap.size + 1) (o := 2) (v := .int .i64 gc) (by simp))
    go_ret2
    exact ⟨rfl, HI.out.2.2.2.2⟩
end Go.Proofs.Ytcalipoknbbaaaa
namespace Go.Proofs.Ytcalipoknbbaaaa
open Go.RowKit
set_option linter.unusedSimpArgs false
set_option linter.unusedVariables false

theorem under38 : Try.prog.underlying 38 = some (.struct (Try.prog.fieldsOf 38)) := by kernel_rfl
theorem stood38 : Try.prog.stoodInHeld 38 = false := by kernel_rfl
theorem guard38 : Try.prog.eqGuardType Try.prog.depth 38 = false := by kernel_rfl
theorem fields38 : (Try.prog.fieldsOf 38).toList.map (fun f => (f.name == "_", f.type, f.offset)) = [(false, 3, 0), (false, 3, 1)] := by kernel_rfl
theorem equal38 (a b c d : Int) (w : World) : (Op.equalIn 10000 38 (.agg #[.int .i64 a, .int .i64 b]) (.agg #[.int .i64 c, .int .i64 d])).run Try.prog w = .ok (a == c && b == d) w := by
  rw [run_equalIn_agg w 9999 38 _ _ under38 stood38]
  have h := fields38
  generalize (Try.prog.fieldsOf 38).toList = l at h
  obtain ⟨f, l1, rfl, hf, h'⟩ := List.map_eq_cons_iff.1 h
  obtain ⟨g, l2, rfl, hg, h''⟩ := List.map_eq_cons_iff.1 h'
  obtain rfl := List.map_eq_nil_iff.1 h''
  clear h h' h''
  simp only [Prod.mk.injEq] at hf hg
  obtain ⟨h1, h2, h3⟩ := hf
  obtain ⟨h4, h5, h6⟩ := hg
  have h1' : f.name ≠ "_" := by simpa using h1
  have h4' : g.name ≠ "_" := by simpa using h4
  simp only [Op.eqFields, h1', h4', h2, h3, h5, h6, ne_eq, not_false_eq_true, if_true]
  cases hac : (a == c) <;> cases hbd : (b == d) <;> simp [go_sem, hac, hbd]
theorem under47 : Try.prog.underlying 47 = some (.struct (Try.prog.fieldsOf 47)) := by kernel_rfl
theorem stood47 : Try.prog.stoodInHeld 47 = false := by kernel_rfl
theorem guard47 : Try.prog.eqGuardType Try.prog.depth 47 = false := by kernel_rfl
theorem fields47 : (Try.prog.fieldsOf 47).toList.map (fun f => (f.name == "_", f.type, f.offset)) = [(false, 3, 0), (false, 3, 1), (false, 3, 2)] := by kernel_rfl
theorem equal47 (a b a2 c d c2 : Int) (w : World) : (Op.equalIn 10000 47 (.agg #[.int .i64 a, .int .i64 b, .int .i64 a2]) (.agg #[.int .i64 c, .int .i64 d, .int .i64 c2])).run Try.prog w = .ok (a == c && (b == d && a2 == c2)) w := by
  rw [run_equalIn_agg w 9999 47 _ _ under47 stood47]
  have h := fields47
  generalize (Try.prog.fieldsOf 47).toList = l at h
  obtain ⟨f, l1, rfl, hf, h'⟩ := List.map_eq_cons_iff.1 h
  obtain ⟨g, l2, rfl, hg, h''⟩ := List.map_eq_cons_iff.1 h'
  obtain ⟨k, l3, rfl, hk, h3⟩ := List.map_eq_cons_iff.1 h''
  obtain rfl := List.map_eq_nil_iff.1 h3
  clear h h' h'' h3
  simp only [Prod.mk.injEq] at hf hg hk
  obtain ⟨h1, h2, h3⟩ := hf
  obtain ⟨h4, h5, h6⟩ := hg
  obtain ⟨h7, h8, h9⟩ := hk
  have h1' : f.name ≠ "_" := by simpa using h1
  have h4' : g.name ≠ "_" := by simpa using h4
  have h7' : k.name ≠ "_" := by simpa using h7
  simp only [Op.eqFields, h1', h4', h7', h2, h3, h5, h6, h8, h9, ne_eq, not_false_eq_true, if_true]
  cases hac : (a == c) <;> cases hbd : (b == d) <;> cases hgd : (a2 == c2) <;> simp [go_sem, hac, hbd, hgd]

attribute [local go_sem] equal38 guard38

set_option maxRecDepth 100000 in
set_option maxHeartbeats 400000 in
theorem equal_any (q1 q2 : Option Addr) (c1 c2 : Nat) (xs ys : List Pl) (w : World) (h1 : RowP w q1 xs) (h2 : RowP w q2 ys) (l1 : xs.length ≤ 1000000) (l2 : ys.length ≤ 1000000) :
    Calls Try.prog 27 #[.slice q1 xs.length c1, .slice q2 ys.length c2] w fun e w' => e = .returned (.bool (xs == ys)) ∧ Below w.heap.size w w' := by
  have H1 := Lib.hid h1
  have H2 := Lib.hid h2
  clear h1 h2
  by_cases hl : xs.length = ys.length
  · have hl' : ((xs.length : Int) != (ys.length : Int)) = false := by simp [hl]
    have hlen := hl
    generalize hn : ys.length = n at *
    have HL := Lib.hid hl
    have HN := Lib.hid hn
    rw [hl] at l1 hl' ⊢
    clear hl hn hlen
    go_enter Try.func27, Try.ntmps27
    go_wp2
    go_loopw [5] (fun i wr => ∃ k : Nat, k ≤ n ∧ i = .int .i64 k ∧ xs.take k = ys.take k ∧ Below w.heap.size w wr) (fun i _ => n - (intOf i).toNat)
    case atStart => exact ⟨0, Nat.zero_le _, rfl, rfl, Below.refl _ _⟩
    case round =>
      obtain ⟨k, hk, rfl, htk, hbel⟩ := hrel
      by_cases hlt : k < n
      · obtain ⟨b1, o1, rfl, hz1, g1, g1'⟩ := H1.out.at (show k < xs.length by rw [HL.out]; exact hlt) (Nat.le_refl _) hbel
        obtain ⟨b2, o2, rfl, hz2, g2, g2'⟩ := H2.out.at (show k < ys.length by rw [HN.out]; exact hlt) (Nat.le_refl _) hbel
        have hts := take_succ_eq (xs := xs) (ys := ys) (k := k) (by rw [HL.out]; exact hlt) (by rw [HN.out]; exact hlt) (0, 0) htk
        have HTS := Lib.hid hts
        have hne : xs.getD k (0, 0) ≠ ys.getD k (0, 0) → xs ≠ ys := fun h e => h (by rw [e])
        have HNE := Lib.hid hne
        generalize xs.getD k (0, 0) = x at g1 g1' HTS HNE
        generalize ys.getD k (0, 0) = y at g2 g2' HTS HNE
        clear hts hne htk
        by_cases hx1 : x.1 = y.1
        · by_cases hx2 : x.2 = y.2
          · have HE := Lib.hid (show x = y from Prod.ext hx1 hx2)
            go_wp2
            go_quiet (fail)
            go_wp2
            go_roundw
            case rel => exact ⟨k + 1, hlt, by go_num, HTS.out HE.out, below_drewN hbel _⟩
            case measure => simp [intOf]; omega
          · have HE := Lib.hid (show x ≠ y from fun e => hx2 (by rw [e]))
            go_wp2
            go_quiet (fail)
            go_wp2
            go_ret
            exact ⟨ret_bool (beq_eq_false_iff_ne.2 (HNE.out HE.out)).symm, below_drewN hbel _⟩
        · have HE := Lib.hid (show x ≠ y from fun e => hx1 (by rw [e]))
          go_wp2
          go_quiet (fail)
          go_wp2
          go_ret
          exact ⟨ret_bool (beq_eq_false_iff_ne.2 (HNE.out HE.out)).symm, below_drewN hbel _⟩
      · obtain rfl : k = n := by omega
        have he : xs = ys := by
          rw [List.take_of_length_le (by rw [HL.out]; exact Nat.le_refl _), List.take_of_length_le (by rw [HN.out]; exact Nat.le_refl _)] at htk
          exact htk
        have HE := Lib.hid he
        clear htk he
        go_wp2
        go_ret
        exact ⟨ret_bool (by rw [HE.out]; exact (beq_self_eq_true ys).symm), hbel⟩
  · have hl' : ((xs.length : Int) != (ys.length : Int)) = true := by simp; omega
    go_enter Try.func27, Try.ntmps27
    go_wp2
    go_ret
    refine ⟨ret_bool ?_, Below.refl _ _⟩
    symm
    rw [beq_eq_false_iff_ne]
    intro e
    exact hl (by rw [e])

def OwnR (w : World) (gs : List Gl) (e : Ending) (w' : World) : Prop := ∃ q c, e = .returned (.slice q gs.length c) ∧ w'.ownsRow w.heap.size 47 3 (.slice q gs.length c) gs.length (flatG gs) ∧ Below w.heap.size w w'
set_option maxRecDepth 100000 in
set_option maxHeartbeats 1000000 in
theorem galleries_any (q : Option Addr) (c : Nat) (gs : List Gl) (w : World) (hr : RowG w q gs) (hl : gs.length ≤ 1000) :
    Calls Try.prog 43 #[.slice q gs.length c] w (OwnR w gs) := by
  have HR := Lib.hid hr
  clear hr
  go_enter Try.func43, Try.ntmps43
  go_wp2
  go_loopw [3, 4] (fun v i wr => ∃ k : Nat, k ≤ gs.length ∧ i = .int .i64 k ∧ wr.ownsRow w.heap.size 47 3 v (gs.take k).length (flatG (gs.take k)) ∧ Below w.heap.size w wr) (fun _ i _ => gs.length - (intOf i).toNat)
  case atStart => exact ⟨0, Nat.zero_le _, rfl, World.ownsRow_nil _ _ _ _, Below.refl _ _⟩
  case round =>
    obtain ⟨k, hk, rfl, hown, hbel⟩ := hrel
    have HO := Lib.hid hown
    clear hown
    by_cases hlt : k < gs.length
    · obtain ⟨b, off, rfl, hb, h1, h2, h3⟩ := HR.out.at hlt (Nat.le_refl _) hbel
      have hst : gs.take (k + 1) = gs.take k ++ [gs.getD k (0, 0, 0)] := by rw [List.take_succ_eq_append_getElem hlt, getD_eq gs k (0, 0, 0) hlt]
      have hbd : (gs.take k).length ≤ k := List.length_take_le _ _
      generalize gs.getD k (0, 0, 0) = g at *
      generalize gs.take k = out at *
      have HST := Lib.hid hst
      have hsz := hbel.size
      clear hst
      go_wp2_with (at_builtin; refine app_galR _ rfl (.tmp 11) (.tmp 16) rfl w.heap.size _ _ g rfl (HO.out.alloc _) wr.heap.size 1 rfl (by simp) (by simp) (by simp) (by omega) (by simp; omega) ?_; intro v' w3 hown3 hgrow hblk)
      have hb3 := grown_below (HO.out.alloc (.cells #[.int .i64 g.1, .int .i64 g.2.1, .int .i64 g.2.2] 47)) (by simp; omega) hgrow
      go_roundw
      case rel => exact ⟨k + 1, hlt, by go_num, by rw [HST.out]; exact hown3, (hbel.alloc (by omega) _).trans hb3⟩
      case measure => simp [intOf]; omega
    · obtain rfl : k = gs.length := by omega
      have ho := HO.out
      rw [List.take_length] at ho
      obtain ⟨q1, c1, rfl, r1, n1⟩ := owns_cap ho
      have HOO := Lib.hid ho
      clear ho HO r1 n1
      go_wp2
      go_ret
      exact ⟨q1, c1, rfl, HOO.out, hbel⟩

theorem Cell2.new2 (w : World) (a b : Value) (t : TypeId) (ha : a.oneCell' = true) (hb : b.oneCell' = true) : Cell2 (w.alloc (.cells #[a, b] t)) w.heap.size a b :=
  ⟨by simp, by simp, by simp, by simp, by simp⟩
set_option maxRecDepth 100000 in
set_option maxHeartbeats 1000000 in
theorem inner_any (n : Int) (q : Option Addr) (c : Nat) (gs : List Gl) (w : World) (hr : RowG w q gs) (hl : gs.length ≤ 1000) :
    Calls Try.prog 20 #[.agg #[.int .i64 n, .slice q gs.length c]] w fun e w' => ∃ q' c', e = .returned (.agg #[.int .i64 n, .slice q' gs.length c']) ∧ RowG w' q' gs ∧ (q' = none → c' = 0) ∧ Below w.heap.size w w' := by
  have hb0 := below_two w (.cells #[.int .i64 n, .slice q gs.length c] 24) (.cells #[.int .i64 0, .slice none 0 0] 32)
  have HB0 := Lib.hid hb0
  have HR := Lib.hid (hr.below (Nat.le_refl _) hb0)
  clear hb0 hr
  go_enter Try.func20, Try.ntmps20
  go_wp2
  have f0 : ((w.alloc (.cells #[.int .i64 n, .slice q gs.length c] 24)).alloc (.cells #[.int .i64 0, .slice none 0 0] 32)).cell? ⟨w.heap.size, 0, none⟩ = some (.int .i64 n) := by simp
  have f1 : ((w.alloc (.cells #[.int .i64 n, .slice q gs.length c] 24)).alloc (.cells #[.int .i64 0, .slice none 0 0] 32)).cell? ⟨w.heap.size, 1, none⟩ = some (.slice q gs.length c) := by simp
  have HC := Lib.hid ((Cell2.new2 (w.alloc (.cells #[.int .i64 n, .slice q gs.length c] 24)) (.int .i64 0) (.slice none 0 0) 32 rfl rfl))
  have hz : ((w.alloc (.cells #[.int .i64 n, .slice q gs.length c] 24)).alloc (.cells #[.int .i64 0, .slice none 0 0] 32)).heap.size = w.heap.size + 2 := by simp
  generalize ((w.alloc (.cells #[.int .i64 n, .slice q gs.length c] 24)).alloc (.cells #[.int .i64 0, .slice none 0 0] 32)) = W0 at *
  have hz1 : (w.alloc (.cells #[.int .i64 n, .slice q gs.length c] 24)).heap.size = w.heap.size + 1 := by simp
  rw [hz1] at HC
  have hT := galleries_any q c gs W0.drew (HR.out.below (Nat.le_refl _) (Below.refl _ _).drew) hl
  have HT := Lib.hid hT
  clear hT hz1
  go_region_held3 (fun W => W.cell? ⟨w.heap.size, 0, none⟩ = some (.int .i64 n) ∧ W.cell? ⟨w.heap.size, 1, none⟩ = some (.slice q gs.length c)) (first | exact ⟨f0, f1⟩ | exact ⟨j0, j1⟩ | go_keep)
    (first
    | (go_at_call 43; refine HT.out.mono ?_; rintro e V ⟨q3, c3, rfl, ho3, hbv⟩; have hbv' : Below W0.heap.size W0 V := ((Below.refl _ _).drew).trans (hbv.mono (by simp)); have HBV := Lib.hid hbv'; have j0 := (hbv'.cell (p := ⟨w.heap.size, 0, none⟩) (by show w.heap.size < _; omega)).trans f0; have j1 := (hbv'.cell (p := ⟨w.heap.size, 1, none⟩) (by show w.heap.size < _; omega)).trans f1; have HC2 := Lib.hid (HC.out.below (N := W0.heap.size) (by omega) hbv'); obtain ⟨y0, y1, y2, y3, y4⟩ := HC2.out)
    | fail)
  have hds : W0.drew.heap.size = W0.heap.size := by simp
  rw [hds] at ho3
  obtain ⟨k0, k1, k2, _, _⟩ := HC2.out.set (.int .i64 n) (.slice q3 gs.length c3)
  have hbn := ((HB0.out.trans (HBV.out.mono (by omega))).setCell (p := ⟨w.heap.size + 1, 0, none⟩) (Nat.le_succ _) (.int .i64 n)).setCell (p := ⟨w.heap.size + 1, 1, none⟩) (Nat.le_succ _) (.slice q3 gs.length c3)
  have r3 := ownsRow_setCell (ownsRow_setCell ho3 ⟨w.heap.size + 1, 0, none⟩ (.int .i64 n) (show w.heap.size + 1 < _ by omega)) ⟨w.heap.size + 1, 1, none⟩ (.slice q3 gs.length c3) (show w.heap.size + 1 < _ by omega)
  obtain ⟨q4, c4, e4, r4, n4⟩ := owns_cap r3
  injection e4 with e5 _ e6
  subst e5; subst e6
  have HR4 := Lib.hid r4
  have HN4 := Lib.hid n4
  have HBN := Lib.hid hbn
  clear r3 r4 n4 hbn ho3 f0 f1 j0 j1
  generalize hW : ((V.setCell ⟨w.heap.size + 1, 0, none⟩ (.int .i64 n)).setCell ⟨w.heap.size + 1, 1, none⟩ (.slice q3 gs.length c3)) = W at *
  go_wp2
  refine bodyPost_ret (by simp [results, Try.results20, go_sem, k1, k2]; try rfl) rfl ?_
  exact ⟨q3, c3, rfl, HR4.out, HN4.out, HBN.out⟩
end Go.Proofs.Ytcalipoknbbaaaa
