/- SeamWrong: the walk, and the row's step. -/
import Derived.Test.YtcalipoknbbaaaaSeamDoignonB
import Derived.Test.YtcalipoknbbaaaaNeed
import Derived.Test.YtcalipoknbbaaaaRows
import Derived.WalkKit
import Derived.ProofKit
import Derived.OpenShut
import Derived.Test.YtcalipoknbbaaaaDigC
namespace Go.Proofs.Ytcalipoknbbaaaa
open Go.RowKit
set_option linter.unusedSimpArgs false
set_option linter.unusedVariables false

set_option maxRecDepth 100000 in
set_option maxHeartbeats 1000000 in
/-- the test: a place agrees with all galleries but some -/
theorem wrongT_any (n B : Nat) (q q2 : Option Addr) (c c2 : Nat) (gs : List Gl) (xs : List Int) (w : World) (hn7 : n ≤ 7) (hB : HillAt w B n (.slice q gs.length c)) (hr : RowG w q gs) (hg : ∀ g ∈ gs, okG g) (hl : gs.length ≤ 1000) (hx : RowI w q2 xs) (hlx : xs.length ≤ 1000) :
    Calls Try.prog 71 #[.slice q2 xs.length c2, .pointer (some ⟨B, 0, none⟩)] w fun e w' => e = .returned (.bool (wrongB n gs xs)) ∧ Below w.heap.size w w' := by
  have hd : Below w.heap.size w w.drew := (Below.refl _ _).drew
  have HD := Lib.hid hd
  have HR := Lib.hid (hr.below (Nat.le_refl _) hd)
  have HX := Lib.hid (hx.below (Nat.le_refl _) hd)
  have HB := Lib.hid (hB.below (Nat.le_refl _) hd)
  have HC := Lib.hid (cnt_reg n (sel false xs gs))
  obtain ⟨z0, k0, k1⟩ := hB
  clear hr hx hd
  go_enter Try.func71, Try.ntmps71
  go_wp2
  go_region_held3 (fun W => W.cell? ⟨B, 0, none⟩ = some (.int .i64 n) ∧ W.cell? ⟨B, 1, none⟩ = some (.slice q gs.length c)) (first | exact ⟨ka, kb⟩ | exact ⟨kc, kd⟩ | go_keep)
    (first
    | (go_at_call 68; refine (some_any false q q2 c c2 gs xs _ HR.out HX.out (by omega) (by omega)).mono ?_; rintro e w1 ⟨q3, c3, rfl, r3, _, hb1⟩; have hB1 := HB.out.below (Nat.le_refl _) hb1; obtain ⟨y0, ka, kb⟩ := hB1)
    | (go_at_call 64; refine (left_any n q3 c3 _ _ hn7 (fun g hg' => hg g (sel_mem _ _ _ g hg')) r3 (by have := sel_length false xs gs; omega)).mono ?_; rintro e w2 ⟨q4, c4, rfl, r4, hb2⟩; have hB2 := (HB.out.below (Nat.le_refl _) hb1).below (Nat.le_refl _) hb2; obtain ⟨x0, kc, kd⟩ := hB2))
  go_wp2
  go_ret
  exact ⟨ret_bool (by rw [wrongB, HC.out]), (HD.out.trans (hb1.mono (by simp))).trans (hb2.mono (by have := hb1.size; simpa using this))⟩

theorem tests_wrongT {w : World} {n B : Nat} {q : Option Addr} {c : Nat} {gs : List Gl} (hn7 : n ≤ 7) (hB : HillAt w B n (.slice q gs.length c)) (hr : RowG w q gs) (hg : ∀ g ∈ gs, okG g) (hl : gs.length ≤ 1000) :
    TestsI w 71 #[.pointer (some ⟨B, 0, none⟩)] (wrongB n gs) :=
  fun W xs q2 c2 hb hx hlx => wrongT_any n B q q2 c c2 gs xs W hn7 (hB.below (Nat.le_refl _) hb) (hr.below (Nat.le_refl _) hb) hg hl hx (by omega)

/-- a list in a box -/
def BoxAt (w : World) (B : Nat) (v : Value) : Prop := B < w.heap.size ∧ w.cell? ⟨B, 0, none⟩ = some v
theorem BoxAt.below {w w' : World} {B : Nat} {v : Value} (h : BoxAt w B v) {N : Nat} (hN : w.heap.size ≤ N) (hb : Below N w w') : BoxAt w' B v :=
  ⟨Nat.lt_of_lt_of_le h.1 hb.size, (hb.cell (p := ⟨B, 0, none⟩) (Nat.lt_of_lt_of_le h.1 hN)).trans h.2⟩

set_option maxRecDepth 100000 in
set_option maxHeartbeats 1000000 in
/-- the test: some of the galleries have the same region -/
theorem fewT_any (n B BA : Nat) (q q2 qa : Option Addr) (c c2 ca : Nat) (gs : List Gl) (xs : List Int) (w : World) (hn7 : n ≤ 7) (hB : HillAt w B n (.slice q gs.length c)) (hA : BoxAt w BA (.slice qa (regL n gs).length ca)) (hra : RowP w qa (regL n gs)) (hr : RowG w q gs) (hg : ∀ g ∈ gs, okG g) (hl : gs.length ≤ 1000) (hx : RowI w q2 xs) (hlx : xs.length ≤ 1000) :
    Calls Try.prog 72 #[.slice q2 xs.length c2, .pointer (some ⟨B, 0, none⟩), .pointer (some ⟨BA, 0, none⟩)] w fun e w' => e = .returned (.bool (fewB n gs xs)) ∧ Below w.heap.size w w' := by
  have hd : Below w.heap.size w w.drew := (Below.refl _ _).drew
  have HD := Lib.hid hd
  have HR := Lib.hid (hr.below (Nat.le_refl _) hd)
  have HX := Lib.hid (hx.below (Nat.le_refl _) hd)
  have HB := Lib.hid (hB.below (Nat.le_refl _) hd)
  have HA := Lib.hid (hA.below (Nat.le_refl _) hd)
  have HRA := Lib.hid (hra.below (Nat.le_refl _) hd)
  have HC := Lib.hid (reg_cnt n true xs gs)
  have hl1 := regL_len n gs hn7
  have hl2 := regL_len n (sel true xs gs) hn7
  obtain ⟨z0, k0, k1⟩ := hB
  obtain ⟨z1, k2⟩ := hA
  clear hr hx hd hra
  go_enter Try.func72, Try.ntmps72
  go_wp2
  go_region_held3 (fun W => W.cell? ⟨B, 0, none⟩ = some (.int .i64 n) ∧ W.cell? ⟨B, 1, none⟩ = some (.slice q gs.length c) ∧ W.cell? ⟨BA, 0, none⟩ = some (.slice qa (regL n gs).length ca)) (first | exact ⟨ka, kb, ke⟩ | exact ⟨kc, kd, kf⟩ | exact ⟨kg, kh, ki⟩ | go_keep)
    (first
    | (go_at_call 68; refine (some_any true q q2 c c2 gs xs _ HR.out HX.out (by omega) (by omega)).mono ?_; rintro e w1 ⟨q3, c3, rfl, r3, _, hb1⟩; have hB1 := HB.out.below (Nat.le_refl _) hb1; obtain ⟨y0, ka, kb⟩ := hB1; have ke := (HA.out.below (Nat.le_refl _) hb1).2)
    | (go_at_call 64; refine (left_any n q3 c3 _ _ hn7 (fun g hg' => hg g (sel_mem _ _ _ g hg')) r3 (by have := sel_length true xs gs; omega)).mono ?_; rintro e w2 ⟨q4, c4, rfl, r4, hb2⟩; have hB2 := (HB.out.below (Nat.le_refl _) hb1).below (Nat.le_refl _) hb2; obtain ⟨x0, kc, kd⟩ := hB2; have kf := ((HA.out.below (Nat.le_refl _) hb1).below (Nat.le_refl _) hb2).2; have R4 := Lib.hid r4; have RA4 := Lib.hid ((HRA.out.below (Nat.le_refl _) hb1).below (Nat.le_refl _) hb2))
    | (go_at_call 65; refine (alike_any q4 qa c4 ca _ _ _ R4.out RA4.out (by omega) (by omega)).mono ?_; rintro e w3 ⟨rfl, hb3⟩; have hB3 := ((HB.out.below (Nat.le_refl _) hb1).below (Nat.le_refl _) hb2).below (Nat.le_refl _) hb3; obtain ⟨v0, kg, kh⟩ := hB3; have ki := (((HA.out.below (Nat.le_refl _) hb1).below (Nat.le_refl _) hb2).below (Nat.le_refl _) hb3).2))
  go_wp2
  go_ret
  exact ⟨ret_bool (by rw [fewB, HC.out]), ((HD.out.trans (hb1.mono (by simp))).trans (hb2.mono (by have := hb1.size; simpa using this))).trans (hb3.mono (by have := hb1.size; have := hb2.size; simp at *; omega))⟩

theorem tests_fewT {w : World} {n B BA : Nat} {q qa : Option Addr} {c ca : Nat} {gs : List Gl} (hn7 : n ≤ 7) (hB : HillAt w B n (.slice q gs.length c)) (hA : BoxAt w BA (.slice qa (regL n gs).length ca)) (hra : RowP w qa (regL n gs)) (hr : RowG w q gs) (hg : ∀ g ∈ gs, okG g) (hl : gs.length ≤ 1000) :
    TestsI w 72 #[.pointer (some ⟨B, 0, none⟩), .pointer (some ⟨BA, 0, none⟩)] (fewB n gs) :=
  fun W xs q2 c2 hb hx hlx => fewT_any n B BA q q2 qa c c2 ca gs xs W hn7 (hB.below (Nat.le_refl _) hb) (hA.below (Nat.le_refl _) hb) (hra.below (Nat.le_refl _) hb) (hr.below (Nat.le_refl _) hb) hg hl hx (by omega)

set_option maxRecDepth 100000 in
set_option maxHeartbeats 4000000 in
theorem SeamWrong_any (s m : Nat) (ls : List By) (hs : s < 256) (hm : m < 256) (hls : ls.length = 10) (hok : ∀ x ∈ ls, okB x) (w : World) :
    Calls Try.prog 9 #[.agg (digCells s m ls)] w fun e w' => e = .returned (.bool true) ∧ Below w.heap.size w w' := by
  obtain ⟨n, hn⟩ : ∃ n, n = 1 + s % 6 := ⟨_, rfl⟩
  have hn1 : 1 ≤ n := by omega
  have hn7 : n ≤ 7 := by have := Nat.mod_lt s (show 0 < 6 by decide); omega
  have c0 := fun W => made_at 6 8 s m ls n hn (by decide) (by decide) (by decide) hs hm hls hok W 6 8 rfl rfl
  have C0 := Lib.hid c0
  have HLS := Lib.hid hls
  have HDG := Lib.hid (DigAt.new w s m ls)
  have hb0 : Below w.heap.size w (w.alloc (.cells (digCells s m ls) 90)) := (Below.refl _ _).alloc (Nat.le_refl _) _
  have HB0 := Lib.hid hb0
  have hge := digG_err n 8 m ls hn1 hn7
  have hgl := digG_len n 8 m ls
  have h0 := digG_errH n 8 m ls hn1 hn7 (by decide)
  clear c0 hn hs hm hok hls hb0
  generalize digG n 8 m ls = gs at *
  have hog := okGs_of hge
  have HOG := Lib.hid hog
  have hrl := regL_len n gs hn7
  obtain ⟨cw, hcw⟩ := wrong_some n gs hn1
  obtain ⟨cf, hcf⟩ := few_some n gs
  have hwn := wrong_nil n gs cw hcw
  have e1 : wrongOf n gs = (cw, 0) := by rw [wrong_eq n gs h0, hcw, Option.getD_some]
  have e2 : fewestOf n gs = (cf, 0) := by rw [few_eq n gs h0, hcf, Option.getD_some]
  have e3 : needlessOf n gs = (needTo n gs gs.length, 0) := by rw [needlessOf, if_neg (by simp [h0]), Int.toNat_natCast]
  have e4 := (law_first gs.length (by omega) (wrongB n gs)).trans hcw
  have e5 := (law_first gs.length (by omega) (fewB n gs)).trans hcf
  have lw : cw.length ≤ 1000 := by
    have := (all_asc (shortest_mem hcw).1)
    obtain ⟨k, hk, h⟩ := List.mem_flatMap.1 (shortest_mem hcw).1
    have := combos_length _ _ _ _ h
    have := List.mem_range.1 hk
    omega
  have lf : cf.length ≤ 1000 := by
    obtain ⟨k, hk, h⟩ := List.mem_flatMap.1 (shortest_mem hcf).1
    have := combos_length _ _ _ _ h
    have := List.mem_range.1 hk
    omega
  have E1 := Lib.hid e1
  have E2 := Lib.hid e2
  have E3 := Lib.hid e3
  have E4 := Lib.hid e4
  have E5 := Lib.hid e5
  have HWN := Lib.hid hwn
  have hrc := fun is => reg_cnt n false is gs
  have HRC := Lib.hid hrc
  have htf := fun (W : World) (B BA : Nat) (q qa : Option Addr) (c ca : Nat) => @tests_fewT W n B BA q qa c ca gs hn7
  have HTF := Lib.hid htf
  have EG := Lib.hid (enters_of (P := Try.prog) Try.func71 (by kernel_rfl) rfl)
  have EG2 := Lib.hid (enters_of (P := Try.prog) Try.func72 (by kernel_rfl) rfl)
  clear hog hge hcw hcf hwn e1 e2 e3 e4 e5 h0 hrc htf
  generalize hR : regL n gs = R at *
  have HR := Lib.hid hR
  clear hR
  go_enter Try.func9, Try.ntmps9
  go_upto_region 3 with (first
    | (refine wpList_load90 _ _ s m ls HLS.out HDG.out (.tmp 1) rfl rfl rfl ?_)
    | (go_at_call 63; refine (C0.out _).mono ?_; rintro e w1 ⟨q, c, rfl, hown, hb1⟩))
  obtain ⟨q', c', e', hr1, hq1⟩ := owns_cap hown
  injection e' with e2 _ e3
  subst e2; subst e3
  have B1 := (HB0.out.trans (hb1.mono (by simp))).alloc (by have := hb1.size; simp at this; omega) (.cells #[.int .i64 n, .slice q gs.length c] 24)
  have hI : Inv w (w1.alloc (.cells #[.int .i64 n, .slice q gs.length c] 24)) [(q, c, gs)] [] [] [(w1.heap.size, 1, .slice q gs.length c), (w1.heap.size, 0, .int .i64 n)] :=
    ((((Inv.start w).go B1).addG (hr1.below (Nat.le_refl _) ((Below.refl _ w1).alloc (Nat.le_refl _) _)) hq1).addC (b := w1.heap.size) (o := 0) (v := .int .i64 n) (by simp) (by simp)).addC (b := w1.heap.size) (o := 1) (v := .slice q gs.length c) (by simp) (by simp)
  generalize (w1.alloc (.cells #[.int .i64 n, .slice q gs.length c] 24)) = W1 at *
  generalize w1.heap.size = B at *
  have k0 := hI.c (b := B) (o := 0) (v := .int .i64 n) (by simp)
  have k1 := hI.c (b := B) (o := 1) (v := .slice q gs.length c) (by simp)
  have HI := Lib.hid hI
  clear hown hb1 hr1 hq1 B1 hI C0 HDG HLS HB0
  go_upto_region 4 with (go_at_call 64; refine (HI.out.places (ps := R) (HR.out ▸ left_any n q c gs _ hn7 HOG.out (HI.out.1 (q, c, gs) (by simp)).1 (by omega))).mono ?_; rintro e W ⟨q5, c5, rfl, hI⟩; replace HI := Lib.hid hI; clear hI; clear k0 k1)
  have hI := (HI.out.alloc (.cells #[.slice q5 R.length c5] 39)).addC (b := W.heap.size) (o := 0) (v := .slice q5 R.length c5) (by simp) (by simp)
  generalize (W.alloc (.cells #[.slice q5 R.length c5] 39)) = W2 at *
  generalize W.heap.size = BA at *
  replace HI := Lib.hid hI
  clear hI
  have k0 := HI.out.c (b := B) (o := 0) (v := .int .i64 n) (by simp)
  have k1 := HI.out.c (b := B) (o := 1) (v := .slice q gs.length c) (by simp)
  have k2 := HI.out.c (b := BA) (o := 0) (v := .slice q5 R.length c5) (by simp)
  go_upto_region 8 with (first
    | (go_at_call 36; refine (HI.out.listErr (Wrong_any n q c gs _ (HI.out.1 (q, c, gs) (by simp)).1) E1.out).mono ?_; rintro e W ⟨q6, c6, rfl, hI⟩; replace HI := Lib.hid hI; clear hI; have k0 := HI.out.c (b := B) (o := 0) (v := .int .i64 n) (by simp); have k1 := HI.out.c (b := B) (o := 1) (v := .slice q gs.length c) (by simp); have k2 := HI.out.c (b := BA) (o := 0) (v := .slice q5 R.length c5) (by simp))
    | (go_at_call 46; refine (HI.out.listErr (Fewest_any n q c gs _ (HI.out.1 (q, c, gs) (by simp)).1) E2.out).mono ?_; rintro e W ⟨q7, c7, rfl, hI⟩; replace HI := Lib.hid hI; clear hI; have k0 := HI.out.c (b := B) (o := 0) (v := .int .i64 n) (by simp); have k1 := HI.out.c (b := B) (o := 1) (v := .slice q gs.length c) (by simp); have k2 := HI.out.c (b := BA) (o := 0) (v := .slice q5 R.length c5) (by simp))
    | (go_at_call 44; refine (HI.out.listErr (Needless_any n q c gs _ (HI.out.1 (q, c, gs) (by simp)).1) E3.out).mono ?_; rintro e W ⟨q8, c8, rfl, hI⟩; replace HI := Lib.hid hI; clear hI; have k0 := HI.out.c (b := B) (o := 0) (v := .int .i64 n) (by simp); have k1 := HI.out.c (b := B) (o := 1) (v := .slice q gs.length c) (by simp); have k2 := HI.out.c (b := BA) (o := 0) (v := .slice q5 R.length c5) (by simp))
    | (go_at_call 66; refine (HI.out.found (first_any gs.length 71 _ (wrongB n gs) _ (by omega) EG.out (tests_wrongT hn7 ⟨HI.out.lt (b := B) (o := 0) (v := .int .i64 n) (by simp), k0, k1⟩ (HI.out.1 (q, c, gs) (by simp)).1 HOG.out (by omega))) E4.out).mono ?_; rintro e W ⟨q9, c9, rfl, hI⟩; replace HI := Lib.hid hI; clear hI; have k0 := HI.out.c (b := B) (o := 0) (v := .int .i64 n) (by simp); have k1 := HI.out.c (b := B) (o := 1) (v := .slice q gs.length c) (by simp); have k2 := HI.out.c (b := BA) (o := 0) (v := .slice q5 R.length c5) (by simp)))
  go_upto_region 9 with (go_at_call 66; refine (HI.out.found (first_any gs.length 72 _ (fewB n gs) _ (by omega) EG2.out (HTF.out _ B BA q q5 c c5 ⟨HI.out.lt (b := B) (o := 0) (v := .int .i64 n) (by simp), k0, k1⟩ ⟨HI.out.lt (b := BA) (o := 0) (v := .slice q5 R.length c5) (by simp), k2⟩ (HI.out.2.1 (q5, R) (by simp)) (HI.out.1 (q, c, gs) (by simp)).1 HOG.out (by omega))) E5.out).mono ?_; rintro e W ⟨q10, c10, rfl, hI⟩; replace HI := Lib.hid hI; clear hI)
  clear k0 k1 k2 HTF EG EG2
  go_wp2
  go_loopw [16, 56] (fun v i wr => ∃ k : Nat, k ≤ gs.length ∧ i = .int .i64 k ∧ wr.ownsRow W.heap.size 3 1 v (needTo n gs k).length (flatI (needTo n gs k)) ∧ Below W.heap.size W wr) (fun _ i _ => gs.length - (intOf i).toNat)
  case atStart => exact ⟨0, Nat.zero_le _, rfl, World.ownsRow_nil _ _ _ _, Below.refl _ _⟩
  case round =>
    obtain ⟨wo, rfl⟩ : ∃ wo : World, wo = wr := ⟨_, rfl⟩
    obtain ⟨k, hk, rfl, hown, hbel⟩ := hrel
    have hJ := HI.out.go hbel
    have HJ := Lib.hid hJ
    have HO := Lib.hid hown
    have hsz := hbel.size
    clear hown hJ
    by_cases hlt : k < gs.length
    · have k0 := HJ.out.c (b := B) (o := 0) (v := .int .i64 n) (by simp)
      have k1 := HJ.out.c (b := B) (o := 1) (v := .slice q gs.length c) (by simp)
      have k2 := HJ.out.c (b := BA) (o := 0) (v := .slice q5 R.length c5) (by simp)
      have hB := HJ.out.lt (b := B) (o := 0) (v := .int .i64 n) (by simp)
      have hBA := HJ.out.lt (b := BA) (o := 0) (v := .slice q5 R.length c5) (by simp)
      have hd : Below wo.heap.size wo wo.drew := (Below.refl _ _).drew
      have hba : Below wo.heap.size wo (wo.drew.alloc (.cells #[.int .i64 k] 3)) := hd.alloc (by simp) _
      have HBA := Lib.hid hba
      have HRG := Lib.hid (((HJ.out.1 (q, c, gs) (by simp)).1).below (Nat.le_refl _) hba)
      have HRP := Lib.hid ((HJ.out.2.1 (q5, R) (by simp)).below (Nat.le_refl _) hba)
      have HRI := Lib.hid (show RowI (wo.drew.alloc (.cells #[.int .i64 k] 3)) (some ⟨wo.heap.size, 0, none⟩) [(k : Int)] from rowI_new wo.drew [(k : Int)] 3 (0, 0))
      have HH := Lib.hid ((show HillAt wo B n (.slice q gs.length c) from ⟨hB, k0, k1⟩).below (Nat.le_refl _) hba)
      have HX := Lib.hid ((show BoxAt wo BA (.slice q5 R.length c5) from ⟨hBA, k2⟩).below (Nat.le_refl _) hba)
      have hst := needTo_succ n gs k
      have hnl := needTo_le n gs k
      have hl2 := regL_len n (sel false [(k : Int)] gs) hn7
      obtain ⟨bb, hbb⟩ : ∃ bb, ((cnt n (sel false [(k : Int)] gs) : Int) == (cnt n gs : Int)) = bb := ⟨_, rfl⟩
      rw [hbb] at hst
      have HBB := Lib.hid ((HRC.out [(k : Int)]).trans hbb)
      have HST := Lib.hid hst
      clear hst hbb hd hba
      go_wp2
      go_region_held3 (fun W => W.cell? ⟨B, 0, none⟩ = some (.int .i64 n) ∧ W.cell? ⟨B, 1, none⟩ = some (.slice q gs.length c) ∧ W.cell? ⟨BA, 0, none⟩ = some (.slice q5 R.length c5)) (first | exact ⟨ka, kb, kc⟩ | exact ⟨kd, ke, kf⟩ | exact ⟨kg, kh, ki⟩ | go_keep)
        (first
        | (go_at_call 73; refine (list_any _ _).mono ?_; rintro e wl ⟨rfl, rfl⟩)
        | (go_at_call 68; refine (some_any false q (some ⟨wo.heap.size, 0, none⟩) c 1 gs [(k : Int)] _ HRG.out HRI.out (by omega) (by simp)).mono ?_; rintro e w1 ⟨q11, c11, rfl, r11, _, hb1⟩; obtain ⟨y0, ka, kb⟩ := HH.out.below (Nat.le_refl _) hb1; have kc := (HX.out.below (Nat.le_refl _) hb1).2)
        | (go_at_call 64; refine (left_any n q11 c11 _ _ hn7 (fun g hg' => HOG.out g (sel_mem _ _ _ g hg')) r11 (by have := sel_length false [(k : Int)] gs; omega)).mono ?_; rintro e w2 ⟨q12, c12, rfl, r12, hb2⟩; have hb12 := hb1.trans (hb2.mono hb1.size); obtain ⟨x0, kd, ke⟩ := HH.out.below (Nat.le_refl _) hb12; have kf := (HX.out.below (Nat.le_refl _) hb12).2; have R12 := Lib.hid r12; have RP2 := Lib.hid (HRP.out.below (Nat.le_refl _) hb12))
        | (go_at_call 65; refine (alike_any q12 q5 c12 c5 _ _ _ R12.out RP2.out (by omega) (by omega)).mono ?_; rintro e w3 ⟨rfl, hb3⟩; have hb13 := hb12.trans (hb3.mono hb12.size); obtain ⟨v0, kg, kh⟩ := HH.out.below (Nat.le_refl _) hb13; have ki := (HX.out.below (Nat.le_refl _) hb13).2; rw [HBB.out]))
      have HO3 := Lib.hid (owns_below HO.out (Nat.le_refl _) (HBA.out.trans (hb13.mono (by simp))))
      have hb3w := HBA.out.trans (hb13.mono (by simp))
      have hsz3 := hb3w.size
      have hbn := hbel.trans (hb3w.mono hsz)
      cases bb with
      | true =>
        go_wp2_with (at_builtin; refine app_int _ rfl (.tmp 70) (.tmp 72) rfl W.heap.size _ (needTo n gs k) (k : Int) rfl (HO3.out.alloc _) w3.heap.size 1 rfl (by simp) (by omega) (by simp; omega) ?_; intro v' w4 hown4 hgrow hblk)
        have hb4 := grown_al HO3.out (by omega) hgrow
        go_roundw
        case rel => exact ⟨k + 1, hlt, by go_num, by rw [HST.out, if_pos rfl]; exact hown4, hbn.trans hb4⟩
        case measure => simp [intOf]; omega
      | false =>
        go_wp2
        go_roundw
        case rel => exact ⟨k + 1, hlt, by go_num, by rw [HST.out, if_neg (by simp), List.append_nil]; exact HO3.out, hbn⟩
        case measure => simp [intOf]; omega
    · obtain rfl : k = gs.length := by omega
      obtain ⟨q13, c13, rfl, r13⟩ := rowI_of_owns HO.out
      have hI := HJ.out.addI r13
      have lnd := needTo_le n gs gs.length
      replace HI := Lib.hid hI
      clear hI HJ HO r13
      have k0 := HI.out.c (b := B) (o := 0) (v := .int .i64 n) (by simp)
      have k1 := HI.out.c (b := B) (o := 1) (v := .slice q gs.length c) (by simp)
      have k2 := HI.out.c (b := BA) (o := 0) (v := .slice q5 R.length c5) (by simp)
      by_cases hz : 0 < R.length
      · have hcz := HWN.out.2 hz
        have a1 : ((cw.length : Int) == 0) = true := beq_iff_eq.2 (by omega)
        have a2 : decide ((0 : Int) < (R.length : Int)) = true := decide_eq_true (by omega)
        have a3 : decide (0 < R.length) = true := decide_eq_true hz
        have HCZ := Lib.hid hcz
        clear hcz
        go_wp2_with (first
          | (go_at_call 38; refine (HI.out.same _ _ _ _ _ _ true (by simp) (by simp) (by omega) (by omega) (beq_self_eq_true _)).mono ?_; rintro e W ⟨rfl, hI⟩; replace HI := Lib.hid hI; clear hI; have k0 := HI.out.c (b := B) (o := 0) (v := .int .i64 n) (by simp); have k1 := HI.out.c (b := B) (o := 1) (v := .slice q gs.length c) (by simp); have k2 := HI.out.c (b := BA) (o := 0) (v := .slice q5 R.length c5) (by simp))
          | (go_at_call 19; refine (HI.out.scalar (V' := .bool true) (works_any _) rfl).mono ?_; rintro e W ⟨rfl, hI⟩; replace HI := Lib.hid hI; clear hI; have k0 := HI.out.c (b := B) (o := 0) (v := .int .i64 n) (by simp); have k1 := HI.out.c (b := B) (o := 1) (v := .slice q gs.length c) (by simp); have k2 := HI.out.c (b := BA) (o := 0) (v := .slice q5 R.length c5) (by simp)))
        go_ret
        exact ⟨rfl, HI.out.2.2.2.2⟩
      · have hcz : cw.length ≠ 0 := fun h => hz (HWN.out.1 h)
        have a1 : ((cw.length : Int) == 0) = false := beq_eq_false_iff_ne.2 (by omega)
        have a2 : decide ((0 : Int) < (R.length : Int)) = false := decide_eq_false (by omega)
        have a3 : decide (0 < R.length) = false := decide_eq_false hz
        have HCZ := Lib.hid hcz
        clear hcz
        go_wp2_with (first
          | (go_at_call 38; refine (HI.out.same _ _ _ _ _ _ true (by simp) (by simp) (by omega) (by omega) (beq_self_eq_true _)).mono ?_; rintro e W ⟨rfl, hI⟩; replace HI := Lib.hid hI; clear hI; have k0 := HI.out.c (b := B) (o := 0) (v := .int .i64 n) (by simp); have k1 := HI.out.c (b := B) (o := 1) (v := .slice q gs.length c) (by simp); have k2 := HI.out.c (b := BA) (o := 0) (v := .slice q5 R.length c5) (by simp))
          | (go_at_call 19; refine (HI.out.scalar (V' := .bool true) (works_any _) rfl).mono ?_; rintro e W ⟨rfl, hI⟩; replace HI := Lib.hid hI; clear hI; have k0 := HI.out.c (b := B) (o := 0) (v := .int .i64 n) (by simp); have k1 := HI.out.c (b := B) (o := 1) (v := .slice q gs.length c) (by simp); have k2 := HI.out.c (b := BA) (o := 0) (v := .slice q5 R.length c5) (by simp)))
        go_ret
        exact ⟨rfl, HI.out.2.2.2.2⟩
end Go.Proofs.Ytcalipoknbbaaaa
namespace Go.Proofs.Ytcalipoknbbaaaa.seamWrong
open Go Go.ChangeShapes Go.WideShapes Go.ChangeAt Go.RowKit

theorem own : ownKnob Try.prog.godebug = none := by kernel_rfl

set_option maxRecDepth 100000 in
theorem lifted (os : Os) (started : os.Started) (H : Type) (enc : TypeId × Value → H) :
    ReturnsInHanded {} Try.checked os 9 .any (Rows.seamWrongSpec.pre6 enc Try.prog Try.f9 Rows.seamWrongRow.domain false) (Rows.seamWrongSpec.post enc Try.prog Try.f9 false true false false) := by
  refine returnsInHanded_of_change (C := Try.checked) own started (by kernel_rfl) Try.func9
    (ChangeSpec.witness6 (enc := enc) (C := Try.checked) false { blocks := #[], args := #[.agg (digCells 0 0 (List.replicate 10 (0, 0, 0, 0)))], vars := [] } 8 (by kernel_rfl) (by kernel_rfl) (by kernel_rfl) (by kernel_rfl)) ?_
  intro W base args ds gs before hval0 hW hcnd _
  have hval : ∀ (j : Nat) t v, Try.f9.params[j]? = some t → args[j]? = some v → Value.okWide Try.prog W .any base t v := hval0
  have hW' := hW
  obtain ⟨p, q, hA0, hV, rfl, hfz, hnd⟩ := hW
  have hA : DataW.TrodAll enc Try.prog W 0 (fun _ => true) true Try.f9.params.toList args.toList ds p := hA0
  rw [Try.params9] at hA hval
  obtain ⟨v0, d0, rfl, rfl, h0⟩ := trodAll_one hA
  obtain ⟨rfl, rfl⟩ := trodVars_none hV
  obtain ⟨rfl, g0⟩ := trod_same 5 plain90 h0
  obtain ⟨s0, m0, ls0, rfl, k0a, k0b, k0c, k0d⟩ := dig_of (hval 0 90 v0 rfl rfl)
  clear hA0 hval0
  simp only [List.append_nil] at hW'
  refine (SeamWrong_any s0 m0 ls0 k0a k0b k0c k0d W).mono fun e W' ⟨he, hg⟩ => ?_
  subst he
  refine ⟨_, rfl, _, _, _, [] ++ [], [] ++ [], [], hW', ?_, ?_, ?_, hg.frame _, fun h => by cases h⟩
  · exact trodAll_cons_mk (shut_bool Try.underlying4 _) trodAll_mk0
  · exact trodAll_cons_mk (g0 _ _ _ _) trodAll_mk0
  · rfl

end Go.Proofs.Ytcalipoknbbaaaa.seamWrong
