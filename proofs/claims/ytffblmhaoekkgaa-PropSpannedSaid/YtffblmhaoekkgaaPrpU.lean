/- Chapter 7's law: PropSure, plainly; its closures. -/
import Derived.Test.YtffblmhaoekkgaaPrpS
namespace Go.Proofs.Ytffblmhaoekkgaa.prp
open Go.RowKit
set_option linter.unusedSimpArgs false
set_option linter.unusedVariables false

/-- where a statement stands: rows, boxes and variables that lie in memory -/
structure Hc (w W : World) (rows : List (Option Addr × List Value)) (boxes : List (Nat × List Int)) (cells : List (Nat × Value)) : Prop where
  bel : Below w.heap.size w W
  row : ∀ p ∈ rows, RowV W p.1 p.2
  box : ∀ p ∈ boxes, BoxAt W p.1 p.2
  cell : ∀ p ∈ cells, SliceAt W p.1 p.2
theorem Hc.go {w W W' : World} {rows : List (Option Addr × List Value)} {boxes : List (Nat × List Int)} {cells : List (Nat × Value)} (h : Hc w W rows boxes cells) (hb : Below W.heap.size W W') : Hc w W' rows boxes cells :=
  ⟨h.bel.on hb, fun p hp => (h.row p hp).below (Nat.le_refl _) hb, fun p hp => (h.box p hp).below (Nat.le_refl _) hb, fun p hp => (h.cell p hp).below (h.cell p hp).1 hb⟩
theorem Hc.add {w W : World} {rows : List (Option Addr × List Value)} {boxes : List (Nat × List Int)} {cells : List (Nat × Value)} (h : Hc w W rows boxes cells) {q : Option Addr} {vs : List Value} (hr : RowV W q vs) : Hc w W ((q, vs) :: rows) boxes cells :=
  ⟨h.bel, fun p hp => by
    rcases List.mem_cons.1 hp with rfl | hp
    · exact hr
    · exact h.row p hp, h.box, h.cell⟩
theorem Hc.addC {w W : World} {rows : List (Option Addr × List Value)} {boxes : List (Nat × List Int)} {cells : List (Nat × Value)} (h : Hc w W rows boxes cells) {B : Nat} {v : Value} (hr : SliceAt W B v) : Hc w W rows boxes ((B, v) :: cells) :=
  ⟨h.bel, h.row, h.box, fun p hp => by
    rcases List.mem_cons.1 hp with rfl | hp
    · exact hr
    · exact h.cell p hp⟩
theorem Hc.of {w W : World} {rows : List (Option Addr × List Value)} {boxes : List (Nat × List Int)} (h : Here w W rows boxes) : Hc w W rows boxes [] := ⟨h.bel, h.row, h.box, fun p hp => by simp at hp⟩
theorem Hc.r {w W : World} {rows : List (Option Addr × List Value)} {boxes : List (Nat × List Int)} {cells : List (Nat × Value)} (h : Hc w W rows boxes cells) {q : Option Addr} {vs : List Value} (hm : (q, vs) ∈ rows) : RowV W q vs := h.row _ hm
theorem Hc.c {w W : World} {rows : List (Option Addr × List Value)} {boxes : List (Nat × List Int)} {cells : List (Nat × Value)} (h : Hc w W rows boxes cells) {B : Nat} {v : Value} (hm : (B, v) ∈ cells) : SliceAt W B v := h.cell _ hm
theorem Hc.b {w W : World} {rows : List (Option Addr × List Value)} {boxes : List (Nat × List Int)} {cells : List (Nat × Value)} (h : Hc w W rows boxes cells) {B : Nat} {xs : List Int} (hm : (B, xs) ∈ boxes) : BoxAt W B xs := h.box _ hm
theorem Hc.sub {w W : World} {rows rows' : List (Option Addr × List Value)} {boxes boxes' : List (Nat × List Int)} {cells cells' : List (Nat × Value)} (h : Hc w W rows boxes cells) (h1 : ∀ p ∈ rows', p ∈ rows) (h2 : ∀ p ∈ boxes', p ∈ boxes) (h3 : ∀ p ∈ cells', p ∈ cells) : Hc w W rows' boxes' cells' :=
  ⟨h.bel, fun p hp => h.row p (h1 p hp), fun p hp => h.box p (h2 p hp), fun p hp => h.cell p (h3 p hp)⟩
theorem SliceAt.new (w : World) (v : Value) (t : TypeId) : SliceAt (w.alloc (.cells #[v] t)) w.heap.size v := ⟨by simp, by simp⟩

/-! PropSure, plainly -/
theorem bnd_ws {l : List Sn} {ws : List Int} (h : Bnd l ws) : ∀ j, j ≤ l.length → wsErr (l.drop (l.length - j)) (ws.drop (l.length - j)) = 0
  | 0, _ => by simp [wsErr]
  | j + 1, hj => by
    have ih := bnd_ws h j (by omega)
    rw [wsErr_at l ws (l.length - (j + 1)) (by omega) h.1, show l.length - (j + 1) + 1 = l.length - j by omega]
    have hb := h.2 (l.length - (j + 1)) (by omega)
    rw [if_pos (by unfold isF; simp only [Bool.and_eq_true, decide_eq_true_eq]; exact hb)]
    exact ih
theorem bnd_truth {l : List Sn} {ws : List Int} (h : Bnd l ws) : truthErr l ws = 0 := by
  unfold truthErr
  rw [if_neg (by simpa using h.1)]
  have := bnd_ws h l.length (Nat.le_refl _)
  simpa using this
theorem side_ok {l : List Sn} (hE : errP l = 0) {k : Nat} (hk : k < l.length) : placeErr l k = 0 ∧ sideErr l k 1 = 0 ∧ (k ≠ 0 → sideErr l k (-1) = 0) := by
  have hp : placeErr l k = 0 := by rw [place_of hE, if_neg (by omega)]
  refine ⟨hp, ?_, fun h0 => ?_⟩
  · unfold sideErr; rw [if_neg (by simpa using hp), if_neg (by omega), if_neg (by omega)]
  · unfold sideErr; rw [if_neg (by simpa using hp), if_neg (by omega), if_neg (by omega)]
theorem worst_of {l : List Sn} {k : Nat} {d : Int} (h : sideErr l k d = 0) : worstOf l k d = (worstS l k d, 0) := by unfold worstOf; rw [if_neg (by simpa using h)]; rfl
theorem mom_of {l : List Sn} {ws : List Int} {k : Nat} {d : Int} (h : sideErr l k d = 0) (ht : truthErr l ws = 0) : momOf l ws k d = (momS l ws k d, 0) := by
  unfold momOf; rw [if_neg (by simpa using h), if_neg (by simpa using ht)]; rfl
theorem stands_weak (l : List Sn) : standsS l = decide (weakS l < 0) := by
  unfold standsS weakS
  rw [Bool.eq_iff_iff, List.all_eq_true, decide_eq_true_iff]
  constructor
  · intro h
    have : firstIdx (mayTipS l) (List.range l.length) = -1 := firstIdx_miss _ _ (by rw [List.all_eq_true]; exact h)
    omega
  · intro h x hx
    by_cases ht : mayTipS l x = true
    · obtain ⟨i, hi, e⟩ := List.getElem_of_mem hx
      have := firstIdx_ge (mayTipS l) (List.range l.length)
      have h1 : firstIdx (mayTipS l) (List.range l.length) = -1 := by omega
      have := firstIdx_any (mayTipS l) (List.range l.length)
      rw [h1] at this
      have hany : (List.range l.length).any (mayTipS l) = true := List.any_eq_true.2 ⟨x, hx, ht⟩
      rw [hany] at this
      simp at this
    · simpa using ht
theorem weak_tips {l : List Sn} (hE : errP l = 0) : tipsOf l = if weakS l < 0 then (0, 13) else (weakS l, 0) := by
  unfold tipsOf; rw [if_neg (by simpa using hE)]; rfl
theorem weak_none {l : List Sn} (h : weakS l < 0) (lv : Nat) (hlv : lv < l.length) (d : Int) (hd : d ∈ sidesS (lv : Int)) : momS l (worstS l lv d) lv d ≤ 0 := by
  have h1 : standsS l = true := by rw [stands_weak]; simpa using h
  unfold standsS at h1
  have h2 := List.all_eq_true.1 h1 lv (List.mem_range.2 hlv)
  unfold mayTipS at h2
  simp only [Bool.not_eq_true', List.any_eq_false] at h2
  have := h2 d hd
  simpa using this
theorem mom_bd {l : List Sn} (hok : ∀ s ∈ l, okS s) {ws : List Int} (hwl : ws.length = l.length) (hwo : ∀ x ∈ ws, 0 ≤ x ∧ x ≤ 100) (h5 : l.length ≤ 5) {lv : Nat} (hlv : lv < l.length) :
    (-1000000000000 ≤ momS l ws lv 1 ∧ momS l ws lv 1 ≤ 1000000000000) ∧ -1000000000000 ≤ momS l ws lv (-1) ∧ momS l ws lv (-1) ≤ 1000000000000 := by
  have hF := add_bd hok hwl hwo hlv
  have a := psum_bd (addR l ws lv) 200000000000 (by omega) lv l.length (by omega) fun i hi => (hF i hi).1
  have b := psum_bd (addL l ws lv) 200000000000 (by omega) lv l.length (by omega) fun i hi => (hF i hi).2
  rw [momR, momL]
  have hl : (l.length : Int) ≤ 5 := by omega
  omega

set_option maxRecDepth 100000 in
set_option maxHeartbeats 4000000 in
/-- a corner that does not pass the worst truth changes nothing -/
theorem sure1_any (q : Option Addr) (cap : Nat) (l : List Sn) (q2 : Option Addr) (c2 : Nat) (ws : List Int) (lv : Nat) (m : Int) (B1 B2 B3 : Nat) (w : World) (hr : RowV w q (flatS l)) (hr2 : RowV w q2 (flatI ws)) (hl : l.length ≤ 5) (hok : ∀ s ∈ l, okS s) (hb : Bnd l ws) (hlv : lv < l.length)
    (h1 : SliceAt w B1 (.slice q l.length cap)) (h2 : SliceAt w B2 (.int .i64 lv)) (h3 : SliceAt w B3 (.int .i64 m)) (hm : (momsOf l ws lv).1 ≤ m) :
    Calls Try.prog 22 #[.slice q2 l.length c2, .pointer (some ⟨B1, 0, none⟩), .pointer (some ⟨B2, 0, none⟩), .pointer (some ⟨B3, 0, none⟩)] w fun e w' => e = .returned (.tuple #[]) ∧ Below w.heap.size w w' := by
  obtain ⟨h11, h12⟩ := h1
  obtain ⟨h21, h22⟩ := h2
  obtain ⟨h31, h32⟩ := h3
  have hcm := moments_any q cap l q2 c2 ws lv w hr hr2 hl hok hb.1 (hb.small hok) hlv
  rw [hb.1] at hcm
  generalize (momsOf l ws lv).1 = R at *
  generalize (momsOf l ws lv).2 = L at *
  have HCM := Lib.hid hcm
  clear hcm hok hb hr hr2
  go_enter Try.func22, Try.ntmps22
  go_upto_region 1 with (go_at_call 18; refine HCM.out.mono ?_; rintro e w1 ⟨rfl, hb1⟩)
  have h33 := (hb1.cell (p := ⟨B3, 0, none⟩) h31).trans h32
  have hn : ¬ m < R := by omega
  go_wp2
  refine bodyPost_end (results_none rfl _ _ _) rfl ?_
  exact ⟨rfl, hb1⟩
set_option maxRecDepth 100000 in
set_option maxHeartbeats 4000000 in
theorem sure2_any (q : Option Addr) (cap : Nat) (l : List Sn) (q2 : Option Addr) (c2 : Nat) (ws : List Int) (lv : Nat) (m : Int) (B1 B2 B3 : Nat) (w : World) (hr : RowV w q (flatS l)) (hr2 : RowV w q2 (flatI ws)) (hl : l.length ≤ 5) (hok : ∀ s ∈ l, okS s) (hb : Bnd l ws) (hlv : lv < l.length)
    (h1 : SliceAt w B1 (.slice q l.length cap)) (h2 : SliceAt w B2 (.int .i64 lv)) (h3 : SliceAt w B3 (.int .i64 m)) (hm : (momsOf l ws lv).2 ≤ m) :
    Calls Try.prog 23 #[.slice q2 l.length c2, .pointer (some ⟨B1, 0, none⟩), .pointer (some ⟨B2, 0, none⟩), .pointer (some ⟨B3, 0, none⟩)] w fun e w' => e = .returned (.tuple #[]) ∧ Below w.heap.size w w' := by
  obtain ⟨h11, h12⟩ := h1
  obtain ⟨h21, h22⟩ := h2
  obtain ⟨h31, h32⟩ := h3
  have hcm := moments_any q cap l q2 c2 ws lv w hr hr2 hl hok hb.1 (hb.small hok) hlv
  rw [hb.1] at hcm
  generalize (momsOf l ws lv).1 = R at *
  generalize (momsOf l ws lv).2 = L at *
  have HCM := Lib.hid hcm
  clear hcm hok hb hr hr2
  go_enter Try.func23, Try.ntmps23
  go_upto_region 1 with (go_at_call 18; refine HCM.out.mono ?_; rintro e w1 ⟨rfl, hb1⟩)
  have h33 := (hb1.cell (p := ⟨B3, 0, none⟩) h31).trans h32
  have hn : ¬ m < L := by omega
  go_wp2
  refine bodyPost_end (results_none rfl _ _ _) rfl ?_
  exact ⟨rfl, hb1⟩
set_option maxRecDepth 100000 in
/-- all corners, none of which passes the worst truth -/
theorem corners1_any (q : Option Addr) (cap : Nat) (l : List Sn) (lv : Nat) (m : Int) (B1 B2 B3 : Nat) (w : World) (hr : RowV w q (flatS l)) (hl : l.length ≤ 5) (hok : ∀ s ∈ l, okS s) (hlv : lv < l.length)
    (h1 : SliceAt w B1 (.slice q l.length cap)) (h2 : SliceAt w B2 (.int .i64 lv)) (h3 : SliceAt w B3 (.int .i64 m)) (hm : ∀ s, (momsOf l (cornS l s) lv).1 ≤ m) (hq : ∀ a, q = some a → a.block < w.heap.size) :
    Calls Try.prog 21 #[.slice q l.length cap, .func (.func 22) #[] #[.pointer (some ⟨B1, 0, none⟩), .pointer (some ⟨B2, 0, none⟩), .pointer (some ⟨B3, 0, none⟩)]] w fun e w' => e = .returned (.tuple #[]) ∧ Below w.heap.size w w' := by
  refine (corners_gen 22 _ (fun args w => rfl) q cap l w.heap.size w (fun _ W => Below w.heap.size w W) hr hl hq (Nat.le_refl _) (Below.refl _ _) (fun _ W W' hJ hB => hJ.trans (hB.mono hJ.size)) (fun k W q2 c2 hk hJ hB hr2 => ?_)).mono fun e w' h => ⟨h.1, h.2.2⟩
  refine (sure1_any q cap l q2 c2 (cornS l k) lv m B1 B2 B3 W (hr.below (Nat.le_refl _) hB) hr2 hl hok (cornS_bnd hok k) hlv (h1.below h1.1 hB) (h2.below h2.1 hB) (h3.below h3.1 hB) (hm k)).mono fun e w' h => ⟨h.1, hJ.trans (h.2.mono hJ.size), h.2.mono hB.size⟩
set_option maxRecDepth 100000 in
theorem corners2_any (q : Option Addr) (cap : Nat) (l : List Sn) (lv : Nat) (m : Int) (B1 B2 B3 : Nat) (w : World) (hr : RowV w q (flatS l)) (hl : l.length ≤ 5) (hok : ∀ s ∈ l, okS s) (hlv : lv < l.length)
    (h1 : SliceAt w B1 (.slice q l.length cap)) (h2 : SliceAt w B2 (.int .i64 lv)) (h3 : SliceAt w B3 (.int .i64 m)) (hm : ∀ s, (momsOf l (cornS l s) lv).2 ≤ m) (hq : ∀ a, q = some a → a.block < w.heap.size) :
    Calls Try.prog 21 #[.slice q l.length cap, .func (.func 23) #[] #[.pointer (some ⟨B1, 0, none⟩), .pointer (some ⟨B2, 0, none⟩), .pointer (some ⟨B3, 0, none⟩)]] w fun e w' => e = .returned (.tuple #[]) ∧ Below w.heap.size w w' := by
  refine (corners_gen 23 _ (fun args w => rfl) q cap l w.heap.size w (fun _ W => Below w.heap.size w W) hr hl hq (Nat.le_refl _) (Below.refl _ _) (fun _ W W' hJ hB => hJ.trans (hB.mono hJ.size)) (fun k W q2 c2 hk hJ hB hr2 => ?_)).mono fun e w' h => ⟨h.1, h.2.2⟩
  refine (sure2_any q cap l q2 c2 (cornS l k) lv m B1 B2 B3 W (hr.below (Nat.le_refl _) hB) hr2 hl hok (cornS_bnd hok k) hlv (h1.below h1.1 hB) (h2.below h2.1 hB) (h3.below h3.1 hB) (hm k)).mono fun e w' h => ⟨h.1, hJ.trans (h.2.mono hJ.size), h.2.mono hB.size⟩
end Go.Proofs.Ytffblmhaoekkgaa.prp
