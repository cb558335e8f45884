/- Package prop, the walks: centre, extremes, first, Span. -/
import Derived.Test.YtffblmhaoekkgaaPrpV
namespace Go.Proofs.Ytffblmhaoekkgaa.prp
open Go.RowKit
set_option linter.unusedSimpArgs false
set_option linter.unusedVariables false

abbrev Fr := Int × Int
def frP (x : Fr) : Value := frV x.1 x.2
def flatF (xs : List Fr) : List Value := xs.flatMap fun x => [.int .i64 x.1, .int .i64 x.2]
theorem flatF_snoc (xs : List Fr) (x : Fr) : flatF (xs ++ [x]) = flatF xs ++ [.int .i64 x.1, .int .i64 x.2] := by simp [flatF]
theorem flatF_length : ∀ xs : List Fr, (flatF xs).length = xs.length * 2
  | [] => rfl
  | x :: xs => by have := flatF_length xs; simp [flatF] at this ⊢; omega
theorem flatF_get : ∀ (gs : List Fr) (i : Nat), i < gs.length → (flatF gs)[i * 2]? = some (.int .i64 (gs.getD i (0, 0)).1) ∧ (flatF gs)[i * 2 + 1]? = some (.int .i64 (gs.getD i (0, 0)).2)
  | [], i, h => by simp at h
  | g :: gs, 0, _ => by simp [flatF]
  | g :: gs, i + 1, h => by
    have ih := flatF_get gs i (by simpa using h)
    have e : flatF (g :: gs) = .int .i64 g.1 :: .int .i64 g.2 :: flatF gs := by simp [flatF]
    rw [e, show (i + 1) * 2 = i * 2 + 1 + 1 by omega]
    simpa using ih
theorem rowF_at {w wr : World} {q : Option Addr} {cs : List Fr} (h : RowV w q (flatF cs)) {k : Nat} (hk : k < cs.length) {N : Nat} (hN : w.heap.size ≤ N) (hb : Below N w wr) :
    ∃ b off, q = some ⟨b, off, none⟩ ∧ b < w.heap.size ∧ wr.cell? ⟨b, off + k * 2, none⟩ = some (.int .i64 (cs.getD k (0, 0)).1) ∧ wr.cell? ⟨b, off + k * 2 + 1, none⟩ = some (.int .i64 (cs.getD k (0, 0)).2) := by
  have hl := flatF_length cs
  obtain ⟨h1, h2⟩ := flatF_get cs k hk
  obtain h0 | ⟨b, off, rfl, hb0, hc⟩ := h
  · rw [h0] at hl; simp at hl; omega
  · refine ⟨b, off, rfl, hb0, ?_, ?_⟩
    · exact (hb.cell (p := ⟨b, off + k * 2, none⟩) (Nat.lt_of_lt_of_le hb0 hN)).trans (by simpa using hc _ _ h1)
    · exact (hb.cell (p := ⟨b, off + k * 2 + 1, none⟩) (Nat.lt_of_lt_of_le hb0 hN)).trans (by simpa [Nat.add_assoc] using hc _ _ h2)
theorem infoF : (Try.prog.info? 51).map (fun i => (i.zero, i.size, i.bytes)) = some (some (.agg #[.int .i64 0, .int .i64 0]), 2, 16) := by kernel_rfl

/-! the centre of stones of known weight -/
def wsum (xs : List Wn) : Int := (xs.map fun x => x.2).sum
def msum (xs : List Wn) : Int := (xs.map fun x => x.2 * x.1.at_).sum
def okW (xs : List Wn) : Prop := xs.length ≤ 5 ∧ ∀ x ∈ xs, (-100000000 ≤ x.1.at_ ∧ x.1.at_ ≤ 100000000) ∧ 0 ≤ x.2 ∧ x.2 ≤ 100
theorem okW_bd {xs : List Wn} (h : okW xs) : (-50000000000 ≤ msum xs ∧ msum xs ≤ 50000000000) ∧ wsum xs ≤ 500 := by
  have h1 : ∀ x ∈ xs, -10000000000 ≤ x.2 * x.1.at_ ∧ x.2 * x.1.at_ ≤ 10000000000 := fun x hx => by
    obtain ⟨a, b⟩ := h.2 x hx
    have := prod_bd (a := x.2) (b := x.1.at_) (A := 100) (B := 100000000) ⟨by omega, by omega⟩ ⟨by omega, by omega⟩
    omega
  have a := sumTo_bd (fun x => x.2 * x.1.at_) xs 10000000000 (by omega) h1 xs.length (Nat.le_refl _)
  have b := sumTo_bd (fun x => x.2) xs 100 (by omega) (fun x hx => by have := h.2 x hx; omega) xs.length (Nat.le_refl _)
  unfold sumTo at a b
  rw [List.take_length] at a b
  unfold msum wsum
  have := h.1
  omega
set_option maxRecDepth 100000 in
theorem weightOf_any (q : Option Addr) (cap : Nat) (xs : List Wn) (w : World) (hr : RowV w q (flatW xs)) (hx : okW xs) :
    Calls Try.prog 96 #[.slice q xs.length cap] w fun e w' => e = .returned (.int .i64 (wsum xs)) ∧ Below w.heap.size w w' := by
  have hc := sumG_any 102 (fun args w => rfl) (fun x => x.2) q cap xs w hr hx.1 (fun x h => by have := hx.2 x h; omega) (fun x h W => weightOf1_any x W)
  have HC := Lib.hid hc
  clear hc
  go_enter Try.func96, Try.ntmps96
  go_wp2_with (go_at_call 90; refine HC.out.mono ?_; rintro e w1 ⟨rfl, hb1⟩)
  go_ret
  exact ⟨rfl, hb1⟩
set_option maxRecDepth 100000 in
set_option maxHeartbeats 2000000 in
theorem centre_any (q : Option Addr) (cap : Nat) (xs : List Wn) (w : World) (hr : RowV w q (flatW xs)) (hx : okW xs) (hp : 0 < wsum xs) :
    Calls Try.prog 93 #[.slice q xs.length cap] w fun e w' => e = .returned (frV (lowN (msum xs) (wsum xs)) (lowD (msum xs) (wsum xs))) ∧ Below w.heap.size w w' := by
  have hbd := okW_bd hx
  have hm : ∀ x ∈ xs, -200000000000 ≤ x.2 * x.1.at_ ∧ x.2 * x.1.at_ ≤ 200000000000 := fun x h => by
    obtain ⟨a, b⟩ := hx.2 x h
    have := prod_bd (a := x.2) (b := x.1.at_) (A := 100) (B := 100000000) ⟨by omega, by omega⟩ ⟨by omega, by omega⟩
    omega
  have HC := Lib.hid (fun W hb => sumG_any 100 (fun args w => rfl) (fun x => x.2 * x.1.at_) q cap xs W (hr.below (Nat.le_refl _) hb) hx.1 hm (fun x h W => centre1_any x W (hx.2 x h).1 (hx.2 x h).2))
  have HW := Lib.hid (fun W hb => weightOf_any q cap xs W (hr.below (Nat.le_refl _) hb) hx)
  have hf : ∀ W, Calls Try.prog 95 #[.int .i64 (msum xs), .int .i64 (wsum xs)] W fun e w' => e = .returned (.agg #[.int .i64 (lowN (msum xs) (wsum xs)), .int .i64 (lowD (msum xs) (wsum xs))]) ∧ Below W.heap.size W w' := fun W => fraction_any (msum xs) (wsum xs) W ⟨by omega, by omega⟩ ⟨hp, by omega⟩
  have HF := Lib.hid hf
  have hb0 : Below w.heap.size w (w.alloc (.cells #[.int .i64 0, .int .i64 0] 51)) := (Below.refl _ _).alloc (Nat.le_refl _) _
  have hcc0 := Cell2.new w w.heap.size rfl (.int .i64 0) (.int .i64 0) 51
  have hz0 : (w.alloc (.cells #[.int .i64 0, .int .i64 0] 51)).heap.size = w.heap.size + 1 := by simp
  generalize hMS : msum xs = MS at *
  generalize wsum xs = WS at *
  have HMS := Lib.hid hMS
  clear hMS hf hm hbd hx hr
  go_enter Try.func93, Try.ntmps93
  go_upto_region 1 with fail
  generalize (w.alloc (.cells #[.int .i64 0, .int .i64 0] 51)) = W0 at *
  have HB0 := Lib.hid hb0
  have HCC := Lib.hid hcc0
  clear hb0 hcc0
  go_upto_region 2 with (go_at_call 90; refine (HC.out _ HB0.out).mono ?_; rintro e w1 ⟨rfl, hb1⟩)
  have hMs : (List.map (fun x : Wn => x.2 * x.1.at_) xs).sum = MS := HMS.out
  rw [hMs]
  have HB1 := Lib.hid (HB0.out.on hb1)
  have HC1 := Lib.hid (HCC.out.below (N := W0.heap.size) (by omega) hb1)
  have hs1 := hb1.size
  clear hb1 hMs
  generalize hLN : lowN MS WS = LN at *
  generalize hLD : lowD MS WS = LD at *
  have HLN := Lib.hid hLN
  have HLD := Lib.hid hLD
  clear hLN hLD
  go_wp2_with (first
    | (go_at_call 96; refine (HW.out _ HB1.out).mono ?_; rintro e w2 ⟨rfl, hb2⟩; have HB2 := Lib.hid (HB1.out.on hb2); have HC2 := Lib.hid (HC1.out.below (N := w1.heap.size) (by omega) hb2); have hs2 := hb2.size; clear hb2)
    | (go_at_call 95; refine (HF.out _).mono ?_; rintro e w3 ⟨rfl, hb3⟩; have HB3 := Lib.hid (HB2.out.on hb3); have HC3 := Lib.hid (HC2.out.below (N := w2.heap.size) (by omega) hb3); clear hb3; obtain ⟨y0, y1, y2, y3, y4⟩ := HC3.out))
  obtain ⟨k0, k1, k2, _, _⟩ := HC3.out.set (.int .i64 LN) (.int .i64 LD)
  have hbn : Below w.heap.size w ((w3.setCell ⟨w.heap.size, 0, none⟩ (.int .i64 LN)).setCell ⟨w.heap.size, 1, none⟩ (.int .i64 LD)) :=
    (HB3.out.setCell (p := ⟨w.heap.size, 0, none⟩) (Nat.le_refl _) _).setCell (p := ⟨w.heap.size, 1, none⟩) (Nat.le_refl _) _
  generalize ((w3.setCell ⟨w.heap.size, 0, none⟩ (.int .i64 LN)).setCell ⟨w.heap.size, 1, none⟩ (.int .i64 LD)) = W at *
  refine bodyPost_ret (by simp [results, Try.results93, go_sem, k1, k2]; try rfl) rfl ?_
  exact ⟨by rw [HLN.out, HLD.out]; rfl, hbn⟩

/-! extremes -/
theorem flatS_drop : ∀ (l : List Sn) (k : Nat), flatS (l.drop k) = (flatS l).drop (k * 4)
  | l, 0 => by simp
  | [], k + 1 => by simp [flatS]
  | s :: l, k + 1 => by
    have ih := flatS_drop l k
    have e : flatS (s :: l) = .int .i64 s.half :: .int .i64 s.at_ :: .int .i64 s.least :: .int .i64 s.most :: flatS l := by simp [flatS]
    rw [List.drop_succ_cons, ih, e, show (k + 1) * 4 = k * 4 + 1 + 1 + 1 + 1 by omega]
    simp only [List.drop_succ_cons]
def cenF (l : List Sn) (ws : List Int) (lv : Nat) : Fr := (lowN (msum ((weighS l ws).drop lv)) (wsum ((weighS l ws).drop lv)), lowD (msum ((weighS l ws).drop lv)) (wsum ((weighS l ws).drop lv)))
def exF (l : List Sn) (lv : Nat) (d : Int) (j : Nat) : Fr := cenF l (leanS l lv d ((l.getD (lv + j) zs).at_)) lv
def exTo (l : List Sn) (lv : Nat) (d : Int) (k : Nat) : List Fr := (List.range k).map (exF l lv d)
theorem exTo_succ (l : List Sn) (lv : Nat) (d : Int) (k : Nat) : exTo l lv d (k + 1) = exTo l lv d k ++ [exF l lv d k] := by
  unfold exTo; rw [List.range_succ, List.map_append]; rfl
theorem exTo_length (l : List Sn) (lv : Nat) (d : Int) (k : Nat) : (exTo l lv d k).length = k := by simp [exTo]
theorem weigh_wsum {l : List Sn} (hok : ∀ s ∈ l, okS s) {ws : List Int} (hb : Bnd l ws) {lv : Nat} (hlv : lv < l.length) : 0 < wsum ((weighS l ws).drop lv) := by
  have hpos : ∀ x ∈ (weighS l ws).drop lv, 1 ≤ x.2 := fun x hx => by
    have hx := List.mem_of_mem_drop hx
    unfold weighS at hx
    obtain ⟨i, hi, rfl⟩ := List.mem_map.1 hx
    have hi := List.mem_range.1 hi
    have h1 := (hb.2 i hi).1
    have h2 := hok _ (getD_mem l i zs hi)
    unfold okS at h2
    show 1 ≤ ws.getD i 0
    omega
  have hne : (weighS l ws).drop lv ≠ [] := by
    intro h
    have := congrArg List.length h
    simp [weighS] at this
    omega
  unfold wsum
  generalize (weighS l ws).drop lv = ys at *
  have hge : ∀ zs : List Wn, (∀ x ∈ zs, 1 ≤ x.2) → 0 ≤ (zs.map fun x => x.2).sum := by
    intro zs
    induction zs with
    | nil => intro _; simp
    | cons a zs ih =>
      intro h
      have h1 := h a (by simp)
      have h2 := ih fun x hx => h x (by simp [hx])
      simp only [List.map_cons, List.sum_cons]; omega
  match ys, hne with
  | a :: ys, _ =>
    have h1 := hpos a (by simp)
    have h2 := hge ys fun x hx => hpos x (by simp [hx])
    simp only [List.map_cons, List.sum_cons]; omega
theorem weigh_okW {l : List Sn} (hok : ∀ s ∈ l, okS s) {ws : List Int} (hb : Bnd l ws) (h5 : l.length ≤ 5) (lv : Nat) : okW ((weighS l ws).drop lv) := by
  refine ⟨by simp [weighS]; omega, fun x hx => ?_⟩
  exact weigh_ok hok (hb.small hok) hb.1 x (List.mem_of_mem_drop hx)
set_option maxRecDepth 100000 in
set_option maxHeartbeats 4000000 in
theorem extremes_any (q : Option Addr) (cap : Nat) (l : List Sn) (lv : Nat) (d : Int) (w : World) (hr : RowV w q (flatS l)) (hl : l.length ≤ 5) (hok : ∀ s ∈ l, okS s) (hlv : lv < l.length) (hd : d = 1 ∨ d = -1) (hcap : l.length ≤ cap) :
    Calls Try.prog 66 #[.slice q l.length cap, .int .i64 lv, .int .i64 d] w fun e w' => ∃ q c, e = .returned (.slice q (l.length - lv) c) ∧ RowV w' q (flatF (exTo l lv d (l.length - lv))) ∧ l.length - lv ≤ c ∧ Below w.heap.size w w' := by
  have HOK := Lib.hid hok
  obtain ⟨b0, off0, rfl, hb0, _⟩ := rowS_at hr hlv (Nat.le_refl _) (Below.refl _ _)
  have hlv1 : (lv : Int) ≤ (l.length : Int) := by omega
  have hlv2 : (l.length : Int) ≤ (cap : Int) := by omega
  have hlv3 : (lv : Int) ≤ (cap : Int) := by omega
  have hlv4 : ¬ cap = lv := by omega
  have HR := Lib.hid hr
  clear hok hr
  go_enter Try.func66, Try.ntmps66
  go_wp2
  have hdl : (l.drop lv).length = l.length - lv := by simp
  have hRD : RowV w (some ⟨b0, off0 + lv * 4, none⟩) (flatS (l.drop lv)) := by
    have := HR.out.drop (lv * 4)
    rwa [show (flatS l).drop (lv * 4) = flatS (l.drop lv) from (flatS_drop l lv).symm] at this
  have HRD := Lib.hid hRD
  have hcn : 0 < l.length - lv := by omega
  clear hRD
  go_loopw [7, 15] (fun v i wr => ∃ k : Nat, k ≤ l.length - lv ∧ i = .int .i64 k ∧ wr.ownsRow w.heap.size 51 2 v k (flatF (exTo l lv d k)) ∧ Below w.heap.size w wr) (fun _ i _ => l.length - lv - (intOf i).toNat)
  case atStart => exact ⟨0, Nat.zero_le _, rfl, World.ownsRow_nil _ _ _ _, Below.refl _ _⟩
  case round =>
    obtain ⟨k, hk, rfl, hown, hbel⟩ := hrel
    by_cases hlt : k < l.length - lv
    · obtain ⟨b, off, e, hb, h1, h2, h3, h4⟩ := rowS_at HRD.out (k := k) (by omega) (Nat.le_refl _) hbel
      injection e with e
      injection e with e1 e2 e3
      subst e1 e2
      have hgd : (l.drop lv).getD k zs = l.getD (lv + k) zs := by
        rw [List.getD_eq_getElem?_getD, List.getElem?_drop, List.getD_eq_getElem?_getD]
      rw [hgd] at h1 h2 h3 h4
      have hst := exTo_succ l lv d k
      have hex : exF l lv d k = cenF l (leanS l lv d ((l.getD (lv + k) zs).at_)) lv := rfl
      have hg := HOK.out _ (getD_mem l (lv + k) zs (by omega))
      generalize (l.getD (lv + k) zs) = g at h1 h2 h3 h4 hex hg
      obtain ⟨_, _, g3, g4, _⟩ := hg
      have hbw := leanS_bnd HOK.out lv d g.at_
      have hpos := weigh_wsum HOK.out hbw hlv
      have hokw := weigh_okW HOK.out hbw hl lv
      rw [hex] at hst
      have hsz := hbel.size
      have HO := Lib.hid hown
      have HST := Lib.hid hst
      have HBW := Lib.hid hbw
      have HPOS := Lib.hid hpos
      have HOKW := Lib.hid hokw
      have HBL := Lib.hid hbel
      clear hown hst hbw hpos hokw hbel hex hgd
      go_upto_region 5 with fail
      have A0 : Below wr.heap.size wr (wr.alloc (.cells #[.int .i64 g.half, .int .i64 g.at_, .int .i64 g.least, .int .i64 g.most] 44)) := (Below.refl _ _).alloc (Nat.le_refl _) _
      have e2 : (wr.alloc (.cells #[.int .i64 g.half, .int .i64 g.at_, .int .i64 g.least, .int .i64 g.most] 44)).cell? ⟨wr.heap.size, 1, none⟩ = some (.int .i64 g.at_) := by simp
      have HO1 := Lib.hid (owns_below HO.out (Nat.le_refl _) A0)
      have HB1 := Lib.hid (HBL.out.on A0)
      have hsz1 := A0.size
      clear A0 h1 h2 h3 h4
      generalize (wr.alloc (.cells #[.int .i64 g.half, .int .i64 g.at_, .int .i64 g.least, .int .i64 g.most] 44)) = W2 at *
      have HLE := Lib.hid (leaning_any (some ⟨b0, off0, none⟩) cap l lv d g.at_ W2 (HR.out.below (Nat.le_refl _) HB1.out) (by omega) HOK.out hd (by omega) (by omega))
      go_upto_region 6 with (go_at_call 87; refine HLE.out.mono ?_; rintro e W3 ⟨q3, c3, rfl, hr3, hq3, hc3, hb3⟩)
      have hlw : (leanS l lv d g.at_).length = l.length := by simp [leanS]
      generalize hA : leanS l lv d g.at_ = A at *
      have HB3 := Lib.hid (HB1.out.on hb3)
      have HO3 := Lib.hid (owns_below HO1.out (Nat.le_refl _) hb3)
      have hsz3 := hb3.size
      have hwg := weigh_any (some ⟨b0, off0, none⟩) cap l q3 c3 A W3 (HR.out.below (Nat.le_refl _) HB3.out) hr3 hl hlw
      rw [hlw] at hwg ⊢
      have HWG := Lib.hid hwg
      have HA := Lib.hid hA
      clear hwg hr3 hq3 hc3 hb3 HLE hlw hA
      have hwl : ((weighS l A).drop lv).length = l.length - lv := by simp [weighS]
      have HWLN := Lib.hid hwl
      clear hwl
      have hcw := fun W (hrw : RowV W (some ⟨W3.heap.size, 0, none⟩) (flatW (weighS l A))) => show Calls Try.prog 93 #[.slice (some ⟨W3.heap.size, lv * 5, none⟩) (l.length - lv) (l.length - lv)] W fun e w' => e = .returned (.agg #[.int .i64 (cenF l A lv).1, .int .i64 (cenF l A lv).2]) ∧ Below W.heap.size W w' by
        have hr4 := hrw.drop (lv * 5)
        rw [← flatW_drop, Nat.zero_add] at hr4
        have := centre_any (some ⟨W3.heap.size, lv * 5, none⟩) (l.length - lv) ((weighS l A).drop lv) W hr4 HOKW.out HPOS.out
        rw [HWLN.out] at this
        exact this
      have HCW := Lib.hid hcw
      clear hcw
      generalize cenF l A lv = cf at *
      obtain ⟨cn, cd⟩ := cf
      go_upto_region 7 with (first
        | (go_at_call 89; refine HWG.out.mono ?_; rintro e W4 ⟨rfl, hr4, hz4, hb4⟩; have HR4 := Lib.hid hr4; have HB4 := Lib.hid (HB3.out.on hb4); have HO4 := Lib.hid (owns_below HO3.out (Nat.le_refl _) hb4); have hsz4 := hb4.size; clear hr4 hb4)
        | (go_at_call 93; refine (HCW.out _ HR4.out).mono ?_; rintro e W5 ⟨rfl, hb5⟩; have HB5 := Lib.hid (HB4.out.on hb5); have HO5 := Lib.hid (owns_below HO4.out (Nat.le_refl _) hb5); have hsz5 := hb5.size; clear hb5)
        | (at_builtin; refine app_one _ rfl (.tmp 25) (.tmp 32) 102 rfl w.heap.size 51 _ 2 16 Try.underlying102 infoF rfl (by decide) (by decide) u7 k (flatF (exTo l lv d k)) rfl (HO5.out.alloc _) W5.heap.size 1 rfl [.int .i64 cn, .int .i64 cd] rfl ?_ ?_ (by omega) (by simp; omega) ?_; (focus (intro j u hj; match j, hj with | 0, hj => (simp at hj; subst hj; simp) | 1, hj => (simp at hj; subst hj; simp))); (focus (intro u hu; simp at hu; rcases hu with rfl | rfl <;> rfl)); intro v' w3 hown3 hgrow hblk))
      have hrow : w3.ownsRow w.heap.size 51 2 v' (k + 1) (flatF (exTo l lv d (k + 1))) := by
        rw [HST.out, flatF_snoc]; exact hown3
      have hgb : Below w.heap.size W5 w3 := grown_al HO5.out (by omega) hgrow
      have hbn := HB5.out.trans hgb
      have HRW := Lib.hid hrow
      have HBN := Lib.hid hbn
      clear hown3 hgrow hblk hrow hgb hbn
      go_wp2
      go_roundw
      case rel => exact ⟨k + 1, hlt, by go_num, HRW.out, HBN.out⟩
      case measure => simp [intOf]; omega
    · obtain rfl : k = l.length - lv := by omega
      obtain ⟨q9, c9, rfl, hr9, hc9, hq9⟩ := rowV_of_owns hown (by intro h0; omega)
      have HR9 := Lib.hid hr9
      have HCAP := Lib.hid (own_cap hown)
      clear hown hr9 hc9 hq9
      go_wp2
      go_ret
      exact ⟨q9, c9, rfl, HR9.out, HCAP.out, hbel⟩
end Go.Proofs.Ytffblmhaoekkgaa.prp
