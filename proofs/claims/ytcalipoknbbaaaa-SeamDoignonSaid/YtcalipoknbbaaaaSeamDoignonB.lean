/- SeamDoignon: the walk, and the row's step. -/
import Derived.Test.YtcalipoknbbaaaaMade
import Derived.Test.YtcalipoknbbaaaaFirst
import Derived.Test.YtcalipoknbbaaaaClone
import Derived.Test.YtcalipoknbbaaaaLeft
import Derived.Test.YtcalipoknbbaaaaDel
import Derived.Test.YtcalipoknbbaaaaRows
import Derived.WalkKit
import Derived.ProofKit
import Derived.OpenShut
import Derived.Test.YtcalipoknbbaaaaDigC
namespace Go.Proofs.Ytcalipoknbbaaaa
open Go.RowKit
set_option linter.unusedSimpArgs false
set_option linter.unusedVariables false

set_option maxRecDepth 100000 in
set_option maxHeartbeats 1000000 in
/-- the test: no place agrees with some of the galleries -/
theorem clash1_any (n B : Nat) (q q2 : Option Addr) (c c2 : Nat) (gs : List Gl) (xs : List Int) (w : World) (hn7 : n ≤ 7) (hB : HillAt w B n (.slice q gs.length c)) (hr : RowG w q gs) (hg : ∀ g ∈ gs, okG g) (hl : gs.length ≤ 1000) (hx : RowI w q2 xs) (hlx : xs.length ≤ 1000) :
    Calls Try.prog 67 #[.slice q2 xs.length c2, .pointer (some ⟨B, 0, none⟩)] w fun e w' => e = .returned (.bool (clashB n gs xs)) ∧ Below w.heap.size w w' := by
  have hd : Below w.heap.size w w.drew := (Below.refl _ _).drew
  have HD := Lib.hid hd
  have HR := Lib.hid (hr.below (Nat.le_refl _) hd)
  have HX := Lib.hid (hx.below (Nat.le_refl _) hd)
  have HB := Lib.hid (hB.below (Nat.le_refl _) hd)
  have HC := Lib.hid (cnt_reg n (sel true xs gs))
  obtain ⟨z0, k0, k1⟩ := hB
  clear hr hx hd
  go_enter Try.func67, Try.ntmps67
  go_wp2
  go_region_held3 (fun W => W.cell? ⟨B, 0, none⟩ = some (.int .i64 n) ∧ W.cell? ⟨B, 1, none⟩ = some (.slice q gs.length c)) (first | exact ⟨ka, kb⟩ | exact ⟨kc, kd⟩ | go_keep)
    (first
    | (go_at_call 68; refine (some_any true q q2 c c2 gs xs _ HR.out HX.out (by omega) (by omega)).mono ?_; rintro e w1 ⟨q3, c3, rfl, r3, _, hb1⟩; have hB1 := HB.out.below (Nat.le_refl _) hb1; obtain ⟨y0, ka, kb⟩ := hB1)
    | (go_at_call 64; refine (left_any n q3 c3 _ _ hn7 (fun g hg' => hg g (sel_mem _ _ _ g hg')) r3 (by have := sel_length true xs gs; omega)).mono ?_; rintro e w2 ⟨q4, c4, rfl, r4, hb2⟩; have hB2 := (HB.out.below (Nat.le_refl _) hb1).below (Nat.le_refl _) hb2; obtain ⟨x0, kc, kd⟩ := hB2))
  go_wp2
  go_ret
  exact ⟨ret_bool (by rw [clashB, HC.out]), (HD.out.trans (hb1.mono (by simp))).trans (hb2.mono (by have := hb1.size; simpa using this))⟩

theorem tests_clash {w : World} {n B : Nat} {q : Option Addr} {c : Nat} {gs : List Gl} (hn7 : n ≤ 7) (hB : HillAt w B n (.slice q gs.length c)) (hr : RowG w q gs) (hg : ∀ g ∈ gs, okG g) (hl : gs.length ≤ 1000) :
    TestsI w 67 #[.pointer (some ⟨B, 0, none⟩)] (clashB n gs) :=
  fun W xs q2 c2 hb hx hlx => clash1_any n B q q2 c c2 gs xs W hn7 (hB.below (Nat.le_refl _) hb) (hr.below (Nat.le_refl _) hb) hg hl hx (by omega)

variable {w W : World} {G : List (Option Addr × Nat × List Gl)} {P : List (Option Addr × List Pl)} {I : List (Option Addr × List Int)} {C : List (Nat × Nat × Value)}
/-- ints and whether they were found -/
theorem Inv.found {f : Nat} {args : Array Value} {o : Option (List Int)} {xs : List Int} (h : Inv w W G P I C) (hc : Calls Try.prog f args W (FoundF W o)) (ho : o = some xs) :
    Calls Try.prog f args W fun e W' => ∃ q c, e = .returned (.tuple #[.slice q xs.length c, .bool true]) ∧ Inv w W' G P ((q, xs) :: I) C := by
  subst ho
  exact hc.mono fun _ _ ⟨q, c, ys, fd, he, hr, hor, hb⟩ => by
    rcases hor with ⟨_, h1, _⟩ | ⟨rfl, h1⟩
    · cases h1
    · obtain rfl := Option.some.inj h1
      exact ⟨q, c, he, (h.go hb).addI hr⟩
theorem Inv.lefts {q : Option Addr} {c n : Nat} {gs : List Gl} (h : Inv w W G P I C) (hn : n ≤ 7) (hm : (q, c, gs) ∈ G) (hg : ∀ g ∈ gs, okG g) (hl : gs.length ≤ 1000000) :
    Calls Try.prog 64 #[.int .i64 n, .slice q gs.length c] W fun e W' => ∃ q c, e = .returned (.slice q (regL n gs).length c) ∧ Inv w W' G ((q, regL n gs) :: P) I C :=
  h.places (left_any n q c gs W hn hg (h.1 _ hm).1 hl)

theorem Inv.lt (h : Inv w W G P I C) {b o : Nat} {v : Value} (hm : (b, o, v) ∈ C) : b < W.heap.size := (h.2.2.2.1 _ hm).2
theorem owns_some {w : World} {base : Nat} {e : TypeId} {size n : Nat} {v : Value} {xs : List Value} (h : w.ownsRow base e size v n xs) (hn : 0 < n) : ∃ g cap, v = .slice (some ⟨g, 0, none⟩) n cap := by
  obtain ⟨_, ⟨_, h0⟩ | ⟨g, cap, cur, rfl, _⟩⟩ := h
  · omega
  · exact ⟨g, cap, rfl⟩
theorem rowI_some {w : World} {q : Option Addr} {xs : List Int} (h : RowI w q xs) (hn : 0 < xs.length) (c : Nat) : q = none → c = 0 := by
  rintro rfl
  rcases h with rfl | ⟨b, off, e, _⟩
  · simp at hn
  · cases e

set_option maxRecDepth 100000 in
set_option maxHeartbeats 4000000 in
theorem SeamDoignon_any (s m : Nat) (ls : List By) (hs : s < 256) (hm : m < 256) (hls : ls.length = 10) (hok : ∀ x ∈ ls, okB x) (w : World) :
    Calls Try.prog 8 #[.agg (digCells s m ls)] w fun e w' => e = .returned (.bool true) ∧ Below w.heap.size w w' := by
  obtain ⟨n, hn⟩ : ∃ n, n = 1 + s % 7 := ⟨_, rfl⟩
  have hn1 : 1 ≤ n := by omega
  have hn7 : n ≤ 7 := by have := Nat.mod_lt s (show 0 < 7 by decide); omega
  have c0 := fun W => made_at 7 9 s m ls n hn (by decide) (by decide) (by decide) hs hm hls hok W 7 9 rfl rfl
  have C0 := Lib.hid c0
  have HLS := Lib.hid hls
  have HDG := Lib.hid (DigAt.new w s m ls)
  have hb0 : Below w.heap.size w (w.alloc (.cells (digCells s m ls) 90)) := (Below.refl _ _).alloc (Nat.le_refl _) _
  have HB0 := Lib.hid hb0
  have hge := digG_err n 9 m ls hn1 hn7
  have hgl := digG_len n 9 m ls
  have h0 := digG_errH n 9 m ls hn1 hn7 (by decide)
  clear c0 hn hs hm hok hls hb0
  generalize digG n 9 m ls = gs at *
  have hog := okGs_of hge
  have HOG := Lib.hid hog
  have hreg := region_eq n gs h0
  have HREG := Lib.hid hreg
  have hchk := h0
  have HCHK := Lib.hid hchk
  have hself : (regL n gs == regL n gs) = true := beq_self_eq_true _
  have HSELF := Lib.hid hself
  have hrl := regL_len n gs hn7
  have hyes := contra_yes n gs h0
  have hno := contra_no n gs h0
  have hfour := four n gs
  have hprv := fun is => proves_ord n gs is h0
  have HPRV := Lib.hid hprv
  have HYES := Lib.hid hyes
  have HNO := Lib.hid hno
  have HFOUR := Lib.hid hfour
  have hlf := fun good => law_first gs.length (by omega) good
  have HLF := Lib.hid hlf
  clear hog hreg hchk hself hge hyes hno hfour hprv hlf h0
  generalize hR : regL n gs = R at *
  have HR := Lib.hid hR
  clear hR
  go_enter Try.func8, Try.ntmps8
  go_upto_region 3 with (first
    | (refine wpList_load90 _ _ s m ls HLS.out HDG.out (.tmp 1) rfl rfl rfl ?_)
    | (go_at_call 63; refine (C0.out _).mono ?_; rintro e w1 ⟨q, c, rfl, hown, hb1⟩))
  obtain ⟨q', c', e', hr1, hq1⟩ := owns_cap hown
  injection e' with e2 _ e3
  subst e2; subst e3
  have B1 := (HB0.out.trans (hb1.mono (by simp))).alloc (by have := hb1.size; simp at this; omega) (.cells #[.int .i64 n, .slice q gs.length c] 24)
  have hI : Inv w (w1.alloc (.cells #[.int .i64 n, .slice q gs.length c] 24)) [(q, c, gs)] [] [] [(w1.heap.size, 1, .slice q gs.length c), (w1.heap.size, 0, .int .i64 n)] :=
    ((((Inv.start w).go B1).addG (hr1.below (Nat.le_refl _) ((Below.refl _ w1).alloc (Nat.le_refl _) _)) hq1).addC (b := w1.heap.size) (o := 0) (v := .int .i64 n) (by simp) (by simp)).addC (b := w1.heap.size) (o := 1) (v := .slice q gs.length c) (by simp) (by simp)
  generalize (w1.alloc (.cells #[.int .i64 n, .slice q gs.length c] 24)) = W1 at *
  generalize w1.heap.size = B at *
  have k0 := hI.c (b := B) (o := 0) (v := .int .i64 n) (by simp)
  have k1 := hI.c (b := B) (o := 1) (v := .slice q gs.length c) (by simp)
  have HI := Lib.hid hI
  clear hown hb1 hr1 hq1 B1 hI C0 HDG HLS HB0
  by_cases hz : R.length = 0
  · obtain ⟨cc, f1, f2, f3, f4, f5⟩ := HFOUR.out hz
    have e1 := HNO.out hz
    rw [f1, Option.getD_some] at e1
    have e2 := (HLF.out (clashB n gs)).trans f1
    have e3 := HPRV.out cc f4
    rw [f3, if_pos rfl] at e3
    have E1 := Lib.hid e1
    have E2 := Lib.hid e2
    have E3 := Lib.hid e3
    have F5 := Lib.hid f5
    have EG := Lib.hid (enters_of (P := Try.prog) Try.func67 (by kernel_rfl) rfl)
    have hz1 : decide ((0 : Int) < (R.length : Int)) = false := decide_eq_false (by omega)
    have hz2 : decide (0 < R.length) = false := decide_eq_false (by omega)
    have hc1 : decide ((4 : Int) < (cc.length : Int)) = false := decide_eq_false (by omega)
    have hcb : (cc == cc) = true := beq_self_eq_true _
    have HCB := Lib.hid hcb
    clear f1 f3 f4 f5 e1 e2 e3 hcb hz
    go_wp2_with (first
      | (go_at_call 23; refine (HI.out.placesErr (Region_any n q c gs _ (HI.out.1 (q, c, gs) (by simp)).1) HREG.out).mono ?_; rintro e W ⟨q3, c3, rfl, hI⟩; replace HI := Lib.hid hI; clear hI; have k0 := HI.out.c (b := B) (o := 0) (v := .int .i64 n) (by simp); have k1 := HI.out.c (b := B) (o := 1) (v := .slice q gs.length c) (by simp))
      | (go_at_call 34; refine (HI.out.listErr (Contradict_any n q c gs _ (HI.out.1 (q, c, gs) (by simp)).1) E1.out).mono ?_; rintro e W ⟨q4, c4, rfl, hI⟩; replace HI := Lib.hid hI; clear hI; have k0 := HI.out.c (b := B) (o := 0) (v := .int .i64 n) (by simp); have k1 := HI.out.c (b := B) (o := 1) (v := .slice q gs.length c) (by simp))
      | (go_at_call 64; refine (HI.out.places (ps := R) (HR.out ▸ left_any n q c gs _ hn7 HOG.out (HI.out.1 (q, c, gs) (by simp)).1 (by omega))).mono ?_; rintro e W ⟨q5, c5, rfl, hI⟩; replace HI := Lib.hid hI; clear hI; have k0 := HI.out.c (b := B) (o := 0) (v := .int .i64 n) (by simp); have k1 := HI.out.c (b := B) (o := 1) (v := .slice q gs.length c) (by simp))
      | (go_at_call 32; refine (HI.out.scalar (V' := .int .i64 0) (check_any n q c gs _ (HI.out.1 (q, c, gs) (by simp)).1) (by rw [HCHK.out])).mono ?_; rintro e W ⟨rfl, hI⟩; replace HI := Lib.hid hI; clear hI; have k0 := HI.out.c (b := B) (o := 0) (v := .int .i64 n) (by simp); have k1 := HI.out.c (b := B) (o := 1) (v := .slice q gs.length c) (by simp))
      | (go_at_call 65; refine (HI.out.alike q3 q5 c3 c5 R R true (by simp) (by simp) (by omega) (by omega) HSELF.out).mono ?_; rintro e W ⟨rfl, hI⟩; replace HI := Lib.hid hI; clear hI; have k0 := HI.out.c (b := B) (o := 0) (v := .int .i64 n) (by simp); have k1 := HI.out.c (b := B) (o := 1) (v := .slice q gs.length c) (by simp))
      | (go_at_call 66; refine (HI.out.found (first_any gs.length 67 _ (clashB n gs) _ (by omega) EG.out (tests_clash hn7 ⟨HI.out.lt (b := B) (o := 0) (v := .int .i64 n) (by simp), k0, k1⟩ (HI.out.1 (q, c, gs) (by simp)).1 HOG.out (by omega))) E2.out).mono ?_; rintro e W ⟨q6, c6, rfl, hI⟩; replace HI := Lib.hid hI; clear hI; have k0 := HI.out.c (b := B) (o := 0) (v := .int .i64 n) (by simp); have k1 := HI.out.c (b := B) (o := 1) (v := .slice q gs.length c) (by simp))
      | (go_at_call 38; refine (HI.out.same q4 q6 c4 c6 cc cc true (by simp) (by simp) (by omega) (by omega) HCB.out).mono ?_; rintro e W ⟨rfl, hI⟩; replace HI := Lib.hid hI; clear hI; have k0 := HI.out.c (b := B) (o := 0) (v := .int .i64 n) (by simp); have k1 := HI.out.c (b := B) (o := 1) (v := .slice q gs.length c) (by simp))
      | (go_at_call 39; refine (HI.out.scalar (V' := .int .i64 0) (Proves_any n q q4 c c4 gs cc _ (HI.out.1 (q, c, gs) (by simp)).1 (HI.out.2.2.1 (q4, cc) (by simp)) (by omega)) (by rw [E3.out])).mono ?_; rintro e W ⟨rfl, hI⟩; replace HI := Lib.hid hI; clear hI; have k0 := HI.out.c (b := B) (o := 0) (v := .int .i64 n) (by simp); have k1 := HI.out.c (b := B) (o := 1) (v := .slice q gs.length c) (by simp)))
    clear hz1 hz2 hc1 k0 k1
    go_loopw [90] (fun i wr => ∃ k : Nat, k ≤ cc.length ∧ i = .int .i64 k ∧ Inv w wr [(q, c, gs)] [(q5, R), (q3, R)] [(q6, cc), (q4, cc)] [(B, 1, .slice q gs.length c), (B, 0, .int .i64 n)]) (fun i _ => cc.length - (intOf i).toNat)
    case atStart => exact ⟨0, Nat.zero_le _, rfl, HI.out⟩
    case round =>
      obtain ⟨k, hk, rfl, hI⟩ := hrel
      replace HI := Lib.hid hI
      clear hI
      by_cases hlt : k < cc.length
      · have k0 := HI.out.c (b := B) (o := 0) (v := .int .i64 n) (by simp)
        have k1 := HI.out.c (b := B) (o := 1) (v := .slice q gs.length c) (by simp)
        have hB := HI.out.lt (b := B) (o := 0) (v := .int .i64 n) (by simp)
        have hd : Below wr.heap.size wr wr.drew := (Below.refl _ _).drew
        have HRG := Lib.hid (((HI.out.1 (q, c, gs) (by simp)).1).below (Nat.le_refl _) hd)
        have HRI := Lib.hid ((HI.out.2.2.1 (q4, cc) (by simp)).below (Nat.le_refl _) hd)
        have hp : 0 < cc.length := by omega
        have HQ := Lib.hid (rowI_some (HI.out.2.2.1 (q4, cc) (by simp)) hp c4)
        have hsum : IntKind.i64.wrap ((k : Int) + 1) = (k : Int) + 1 := IntWalk.i64_in _ ⟨by omega, by omega⟩
        obtain ⟨g1, g2⟩ := F5.out k hlt
        have e4 := HPRV.out (cc.eraseIdx k) g1
        rw [g2, if_neg (by simp)] at e4
        have E4 := Lib.hid e4
        have HH : HillAt wr.drew B n (.slice q gs.length c) := ⟨by simpa using hB, by simpa using k0, by simpa using k1⟩
        have HHX := Lib.hid HH
        have hel : (cc.eraseIdx k).length ≤ 1000 := by rw [List.length_eraseIdx_of_lt hlt]; omega
        have HEL := Lib.hid hel
        clear g1 g2 e4 HH hel
        go_wp2
        go_region_held3 (fun W => W.cell? ⟨B, 0, none⟩ = some (.int .i64 n) ∧ W.cell? ⟨B, 1, none⟩ = some (.slice q gs.length c)) (first | exact ⟨ka, kb⟩ | exact ⟨kc, kd⟩ | exact ⟨ke, kf⟩ | go_keep)
          (first
          | (go_at_call 70; refine (cloneI_any q4 c4 cc _ HRI.out HQ.out (by omega)).mono ?_; rintro e w1 ⟨v, rfl, hown1, hb1⟩; obtain ⟨g, cp, rfl⟩ := owns_some hown1 hp; have HO1 := Lib.hid hown1; clear hown1; obtain ⟨y0, ka, kb⟩ := HHX.out.below (Nat.le_refl _) hb1)
          | (go_at_call 69; refine (delete_any _ g cp cc k _ HO1.out hlt).mono ?_; rintro e w2 ⟨q7, c7, rfl, r7, hb2⟩; have R7 := Lib.hid r7; clear r7; have hb12 := hb1.trans hb2; obtain ⟨x0, kc, kd⟩ := HHX.out.below (Nat.le_refl _) hb12; have HRG2 := Lib.hid (HRG.out.below (Nat.le_refl _) hb12))
          | (go_at_call 39; refine (Proves_any n q q7 c c7 gs (cc.eraseIdx k) _ HRG2.out R7.out (by have := HEL.out; omega)).mono ?_; rintro e w3 ⟨rfl, hb3⟩; obtain ⟨v0, ke, kf⟩ := (HHX.out.below (Nat.le_refl _) hb12).below (Nat.le_refl _) hb3; rw [E4.out]))
        all_goals
          have hI := ((HI.out.go hd).go hb12).go hb3
          go_wp2
          go_roundw
          case rel => exact ⟨k + 1, hlt, by go_num, hI⟩
          case measure => simp [intOf]; omega
      · obtain rfl : k = cc.length := by omega
        go_wp2_with (go_at_call 19; refine (HI.out.scalar (V' := .bool true) (works_any _) rfl).mono ?_; rintro e W ⟨rfl, hI⟩; replace HI := Lib.hid hI; clear hI)
        go_ret
        exact ⟨rfl, HI.out.2.2.2.2⟩
  · have e1 := HYES.out hz
    have E1 := Lib.hid e1
    have hz1 : decide ((0 : Int) < (R.length : Int)) = true := decide_eq_true (by omega)
    have hz2 : decide (0 < R.length) = true := decide_eq_true (by omega)
    have hz3 : 0 < R.length := by omega
    clear e1 hz
    go_wp2_with (first
      | (go_at_call 23; refine (HI.out.placesErr (Region_any n q c gs _ (HI.out.1 (q, c, gs) (by simp)).1) HREG.out).mono ?_; rintro e W ⟨q3, c3, rfl, hI⟩; replace HI := Lib.hid hI; clear hI; have k0 := HI.out.c (b := B) (o := 0) (v := .int .i64 n) (by simp); have k1 := HI.out.c (b := B) (o := 1) (v := .slice q gs.length c) (by simp))
      | (go_at_call 34; refine (HI.out.listErr (Contradict_any n q c gs _ (HI.out.1 (q, c, gs) (by simp)).1) E1.out).mono ?_; rintro e W ⟨q4, c4, rfl, hI⟩; replace HI := Lib.hid hI; clear hI; have k0 := HI.out.c (b := B) (o := 0) (v := .int .i64 n) (by simp); have k1 := HI.out.c (b := B) (o := 1) (v := .slice q gs.length c) (by simp))
      | (go_at_call 64; refine (HI.out.places (ps := R) (HR.out ▸ left_any n q c gs _ hn7 HOG.out (HI.out.1 (q, c, gs) (by simp)).1 (by omega))).mono ?_; rintro e W ⟨q5, c5, rfl, hI⟩; replace HI := Lib.hid hI; clear hI; have k0 := HI.out.c (b := B) (o := 0) (v := .int .i64 n) (by simp); have k1 := HI.out.c (b := B) (o := 1) (v := .slice q gs.length c) (by simp))
      | (go_at_call 32; refine (HI.out.scalar (V' := .int .i64 0) (check_any n q c gs _ (HI.out.1 (q, c, gs) (by simp)).1) (by rw [HCHK.out])).mono ?_; rintro e W ⟨rfl, hI⟩; replace HI := Lib.hid hI; clear hI; have k0 := HI.out.c (b := B) (o := 0) (v := .int .i64 n) (by simp); have k1 := HI.out.c (b := B) (o := 1) (v := .slice q gs.length c) (by simp))
      | (go_at_call 65; refine (HI.out.alike q3 q5 c3 c5 R R true (by simp) (by simp) (by omega) (by omega) HSELF.out).mono ?_; rintro e W ⟨rfl, hI⟩; replace HI := Lib.hid hI; clear hI; have k0 := HI.out.c (b := B) (o := 0) (v := .int .i64 n) (by simp); have k1 := HI.out.c (b := B) (o := 1) (v := .slice q gs.length c) (by simp))
      | (go_at_call 19; refine (HI.out.scalar (V' := .bool true) (works_any _) rfl).mono ?_; rintro e W ⟨rfl, hI⟩; replace HI := Lib.hid hI; clear hI; have k0 := HI.out.c (b := B) (o := 0) (v := .int .i64 n) (by simp); have k1 := HI.out.c (b := B) (o := 1) (v := .slice q gs.length c) (by simp)))
    go_ret
    exact ⟨rfl, HI.out.2.2.2.2⟩
end Go.Proofs.Ytcalipoknbbaaaa
namespace Go.Proofs.Ytcalipoknbbaaaa.seamDoignon
open Go Go.ChangeShapes Go.WideShapes Go.ChangeAt Go.RowKit

theorem own : ownKnob Try.prog.godebug = none := by kernel_rfl

set_option maxRecDepth 100000 in
theorem lifted (os : Os) (started : os.Started) (H : Type) (enc : TypeId × Value → H) :
    ReturnsInHanded {} Try.checked os 8 .any (Rows.seamDoignonSpec.pre6 enc Try.prog Try.f8 Rows.seamDoignonRow.domain false) (Rows.seamDoignonSpec.post enc Try.prog Try.f8 false true false false) := by
  refine returnsInHanded_of_change (C := Try.checked) own started (by kernel_rfl) Try.func8
    (ChangeSpec.witness6 (enc := enc) (C := Try.checked) false { blocks := #[], args := #[.agg (digCells 0 0 (List.replicate 10 (0, 0, 0, 0)))], vars := [] } 8 (by kernel_rfl) (by kernel_rfl) (by kernel_rfl) (by kernel_rfl)) ?_
  intro W base args ds gs before hval0 hW hcnd _
  have hval : ∀ (j : Nat) t v, Try.f8.params[j]? = some t → args[j]? = some v → Value.okWide Try.prog W .any base t v := hval0
  have hW' := hW
  obtain ⟨p, q, hA0, hV, rfl, hfz, hnd⟩ := hW
  have hA : DataW.TrodAll enc Try.prog W 0 (fun _ => true) true Try.f8.params.toList args.toList ds p := hA0
  rw [Try.params8] at hA hval
  obtain ⟨v0, d0, rfl, rfl, h0⟩ := trodAll_one hA
  obtain ⟨rfl, rfl⟩ := trodVars_none hV
  obtain ⟨rfl, g0⟩ := trod_same 5 plain90 h0
  obtain ⟨s0, m0, ls0, rfl, k0a, k0b, k0c, k0d⟩ := dig_of (hval 0 90 v0 rfl rfl)
  clear hA0 hval0
  simp only [List.append_nil] at hW'
  refine (SeamDoignon_any s0 m0 ls0 k0a k0b k0c k0d W).mono fun e W' ⟨he, hg⟩ => ?_
  subst he
  refine ⟨_, rfl, _, _, _, [] ++ [], [] ++ [], [], hW', ?_, ?_, ?_, hg.frame _, fun h => by cases h⟩
  · exact trodAll_cons_mk (shut_bool Try.underlying4 _) trodAll_mk0
  · exact trodAll_cons_mk (g0 _ _ _ _) trodAll_mk0
  · rfl

end Go.Proofs.Ytcalipoknbbaaaa.seamDoignon
