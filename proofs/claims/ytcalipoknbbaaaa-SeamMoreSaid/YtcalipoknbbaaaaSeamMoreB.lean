/- SeamMore: the walk, and the row's step. -/
import Derived.Test.YtcalipoknbbaaaaSeamDoignonB
import Derived.Test.YtcalipoknbbaaaaClone
import Derived.Deep.CutRange
import Derived.Test.YtcalipoknbbaaaaRows
import Derived.WalkKit
import Derived.ProofKit
import Derived.OpenShut
import Derived.Test.YtcalipoknbbaaaaDigC
namespace Go.Proofs.Ytcalipoknbbaaaa
open Go.RowKit
set_option linter.unusedSimpArgs false
set_option linter.unusedVariables false

attribute [local go_sem] equal28 guard28

/-- a hill in new memory -/
def HillNew (W : World) (n : Nat) (ys : List Gl) (v : Value) (wx : World) : Prop :=
  ∃ b q c, v = .pointer (some ⟨b, 0, none⟩) ∧ RowG wx q ys ∧ (q = none → c = 0) ∧ wx.cell? ⟨b, 0, none⟩ = some (.int .i64 n) ∧ wx.cell? ⟨b, 1, none⟩ = some (.slice q ys.length c) ∧ b < wx.heap.size ∧ Below W.heap.size W wx

theorem rowG_own {w : World} {base g m cap : Nat} {gs : List Gl} (h : w.ownsRow base 28 3 (.slice (some ⟨g, 0, none⟩) m cap) gs.length (flatG gs)) : RowG w (some ⟨g, 0, none⟩) gs := by
  obtain ⟨q, c, e, hr, _⟩ := owns_cap h
  injection e with e1 _ _
  rw [e1]
  exact hr
theorem grown_c2 {V w3 : World} {zv : Value} {A g L c : Nat} {z0 z1 : Value} (hg : V.grownBy w3 zv.ownBlock) (hc : Cell2 V A z0 z1) (hne : ∀ k, zv.ownBlock = some k → k ≠ A)
    (hblk : (Value.slice (some ⟨g, 0, none⟩) L c).ownBlock = zv.ownBlock ∨ (Value.slice (some ⟨g, 0, none⟩) L c).ownBlock = some V.heap.size) : Cell2 w3 A z0 z1 ∧ g ≠ A := by
  obtain ⟨h0, h1, h2, h3, h4⟩ := hc
  have hb := hg.block A h0 (fun e => hne A e.symm rfl)
  have hga : g ≠ A := by
    rcases hblk with e | e
    · exact hne g e.symm
    · have e1 : g = V.heap.size := Option.some.inj e
      omega
  have hs := hg.size
  exact ⟨⟨by omega, (World.cell?_of_block hb).trans h1, (World.cell?_of_block hb).trans h2, (World.frozen?_of_block hb).trans h3, (World.frozen?_of_block hb).trans h4⟩, hga⟩
theorem rowG_set {W : World} {g A i : Nat} {u : Value} {ys : List Gl} (h : RowG W (some ⟨g, 0, none⟩) ys) (hne : g ≠ A) : RowG (W.setCell ⟨A, i, none⟩ u) (some ⟨g, 0, none⟩) ys := by
  have hn : ∀ o, (⟨A, i, none⟩ : Addr) ≠ ⟨g, o, none⟩ := by intro o e; injection e with e; exact hne e.symm
  rcases h with h | ⟨b, off, e, h1, h2⟩
  · exact .inl h
  · simp only [Option.some.injEq, Addr.mk.injEq] at e
    obtain ⟨rfl, rfl, _⟩ := e
    refine .inr ⟨g, 0, rfl, by simp only [World.size_setCell]; exact h1, fun j hj => ?_⟩
    rw [World.cell?_setCell_other (h := hn _), World.cell?_setCell_other (h := hn _), World.cell?_setCell_other (h := hn _)]
    exact h2 j hj
theorem cutIn {T P : Prop} (h : T) (k : T → P) : P := k h
theorem c2_alloc {W : World} {A : Nat} {z0 z1 : Value} {ob : Obj} (h : Cell2 W A z0 z1) : Cell2 (W.alloc ob) A z0 z1 := h.below h.1 ((Below.refl _ _).alloc (Nat.le_refl _) _)
theorem c2_new0 (W : World) : Cell2 (W.alloc (.cells #[.int .i64 0, .slice none 0 0] 24)) W.heap.size (.int .i64 0) (.slice none 0 0) := Cell2.new W W.heap.size rfl _ _ _
theorem c2_new1 (W : World) (ob : Obj) : Cell2 ((W.alloc ob).alloc (.cells #[.int .i64 0, .slice none 0 0] 24)) (W.heap.size + 1) (.int .i64 0) (.slice none 0 0) := Cell2.new (W.alloc ob) (W.heap.size + 1) (by simp) _ _ _
theorem dw1 (W : World) (a : Obj) : Below W.heap.size W (W.alloc a).drew := ((Below.refl _ _).alloc (Nat.le_refl _) _).drew
theorem dw2 (W : World) (a b : Obj) : Below W.heap.size W ((W.alloc a).alloc b).drew := (below_two W a b).drew
theorem c2_d0 (W : World) : Cell2 (W.alloc (.cells #[.int .i64 0, .slice none 0 0] 24)).drew W.heap.size (.int .i64 0) (.slice none 0 0) := (c2_new0 W).below (c2_new0 W).1 (Below.refl _ _).drew
theorem c2_d01 (W : World) (ob : Obj) : Cell2 ((W.alloc (.cells #[.int .i64 0, .slice none 0 0] 24)).alloc ob).drew W.heap.size (.int .i64 0) (.slice none 0 0) := 
  have h := c2_alloc (ob := ob) (c2_new0 W)
  h.below h.1 (Below.refl _ _).drew
theorem c2_d1 (W : World) (ob : Obj) : Cell2 ((W.alloc ob).alloc (.cells #[.int .i64 0, .slice none 0 0] 24)).drew (W.heap.size + 1) (.int .i64 0) (.slice none 0 0) := (c2_new1 W ob).below (c2_new1 W ob).1 (Below.refl _ _).drew
theorem lc1 {W v : World} {x y z : Int} (h : Below (W.alloc (.cells #[.int .i64 x, .int .i64 y, .int .i64 z] 28)).drew.heap.size (W.alloc (.cells #[.int .i64 x, .int .i64 y, .int .i64 z] 28)).drew v) :
    (v.cell? ⟨W.heap.size, 0, none⟩ = some (.int .i64 x) ∧ v.cell? ⟨W.heap.size, 1, none⟩ = some (.int .i64 y) ∧ v.cell? ⟨W.heap.size, 2, none⟩ = some (.int .i64 z)) ∧ W.heap.size < v.heap.size := by
  have hs := h.size
  refine ⟨⟨(h.cell (p := ⟨W.heap.size, 0, none⟩) (by simp)).trans (by simp), (h.cell (p := ⟨W.heap.size, 1, none⟩) (by simp)).trans (by simp), (h.cell (p := ⟨W.heap.size, 2, none⟩) (by simp)).trans (by simp)⟩, ?_⟩
  simp at hs; omega
theorem lc2 {W v : World} {x y z : Int} {ob : Obj} (h : Below ((W.alloc (.cells #[.int .i64 x, .int .i64 y, .int .i64 z] 28)).alloc ob).drew.heap.size ((W.alloc (.cells #[.int .i64 x, .int .i64 y, .int .i64 z] 28)).alloc ob).drew v) :
    (v.cell? ⟨W.heap.size, 0, none⟩ = some (.int .i64 x) ∧ v.cell? ⟨W.heap.size, 1, none⟩ = some (.int .i64 y) ∧ v.cell? ⟨W.heap.size, 2, none⟩ = some (.int .i64 z)) ∧ W.heap.size < v.heap.size := by
  have hs := h.size
  refine ⟨⟨(h.cell (p := ⟨W.heap.size, 0, none⟩) (by simp; omega)).trans (by simp), (h.cell (p := ⟨W.heap.size, 1, none⟩) (by simp; omega)).trans (by simp), (h.cell (p := ⟨W.heap.size, 2, none⟩) (by simp; omega)).trans (by simp)⟩, ?_⟩
  simp at hs; omega
theorem lc3 {W v : World} {x y z : Int} {ob : Obj} (h : Below ((W.alloc ob).alloc (.cells #[.int .i64 x, .int .i64 y, .int .i64 z] 28)).drew.heap.size ((W.alloc ob).alloc (.cells #[.int .i64 x, .int .i64 y, .int .i64 z] 28)).drew v) :
    (v.cell? ⟨W.heap.size + 1, 0, none⟩ = some (.int .i64 x) ∧ v.cell? ⟨W.heap.size + 1, 1, none⟩ = some (.int .i64 y) ∧ v.cell? ⟨W.heap.size + 1, 2, none⟩ = some (.int .i64 z)) ∧ W.heap.size + 1 < v.heap.size := by
  have hs := h.size
  refine ⟨⟨(h.cell (p := ⟨W.heap.size + 1, 0, none⟩) (by simp)).trans (by simp), (h.cell (p := ⟨W.heap.size + 1, 1, none⟩) (by simp)).trans (by simp), (h.cell (p := ⟨W.heap.size + 1, 2, none⟩) (by simp)).trans (by simp)⟩, ?_⟩
  simp at hs; omega
theorem ks {W : World} {A b o : Nat} {x u v : Value} (h : W.cell? ⟨b, o, none⟩ = some x) (hne : A ≠ b) : ((W.setCell ⟨A, 0, none⟩ u).setCell ⟨A, 1, none⟩ v).cell? ⟨b, o, none⟩ = some x := by
  have hn : ∀ i, (⟨A, i, none⟩ : Addr) ≠ ⟨b, o, none⟩ := by intro i e; injection e with e; exact hne e
  rw [World.cell?_setCell_other (h := hn _), World.cell?_setCell_other (h := hn _), h]
theorem ka {W : World} {b o : Nat} {x : Value} {ob : Obj} (h : W.cell? ⟨b, o, none⟩ = some x) (hlt : b < W.heap.size) : (W.alloc ob).cell? ⟨b, o, none⟩ = some x := (((Below.refl _ W).alloc (Nat.le_refl _) ob).cell (p := ⟨b, o, none⟩) hlt).trans h
theorem more_end {W w3 : World} {N A g c n m : Nat} {ys : List Gl} {z0 z1 : Value} (hm : ys.length = m) (hN : N = W.heap.size) (hb : Below N W w3) (hA : N ≤ A) (hc : Cell2 w3 A z0 z1 ∧ g ≠ A) (hr : RowG w3 (some ⟨g, 0, none⟩) ys) :
    HillNew W n ys (.pointer (some ⟨A, 0, none⟩)) ((w3.setCell ⟨A, 0, none⟩ (.int .i64 n)).setCell ⟨A, 1, none⟩ (.slice (some ⟨g, 0, none⟩) m c)) := by
  subst hN
  subst hm
  obtain ⟨k0, k1, k2, _, _⟩ := hc.1.set (.int .i64 n) (.slice (some ⟨g, 0, none⟩) ys.length c)
  exact ⟨A, _, c, rfl, rowG_set (rowG_set hr hc.2) hc.2, (by intro h; cases h), k1, k2, k0, (hb.setCell (p := ⟨A, 0, none⟩) hA _).setCell (p := ⟨A, 1, none⟩) hA _⟩
theorem more_end2 {W w3 : World} {N g c n m : Nat} {ys : List Gl} (hm : ys.length = m) (hN : N = W.heap.size) (hb : Below N W w3) (hr : RowG w3 (some ⟨g, 0, none⟩) ys) :
    HillNew W n ys (.pointer (some ⟨w3.heap.size, 0, none⟩)) (w3.alloc (.cells #[.int .i64 n, .slice (some ⟨g, 0, none⟩) m c] 24)) := by
  subst hN
  subst hm
  exact ⟨w3.heap.size, _, c, rfl, hr.below (Nat.le_refl _) ((Below.refl _ _).alloc (Nat.le_refl _) _), (by intro h; cases h), by simp, by simp, by simp, hb.alloc hb.size _⟩

/-- what is known of a region, and of those with one gallery more, and its opposite -/
theorem more_facts (n : Nat) (gs ys zs : List Gl) (g o : Gl) (ho : oppG g = o) (hy : gs ++ [g] = ys) (hz : gs ++ [o] = zs) (h1 : 1 ≤ n) (h7 : n ≤ 7) (h0 : errH n gs = 0) (he : ∀ x ∈ gs, errG x = 0) (hg : errG g = 0) (hg1 : errG (oppG g) = 0) (hl : gs.length ≤ 9) :
    (∀ p ∈ regL n gs, okP p) ∧ regionOf n gs = (regL n gs, 0) ∧ regionOf n ys = (regL n ys, 0) ∧ regionOf n zs = (regL n zs, 0) ∧ (regL n ys).length + (regL n zs).length = (regL n gs).length ∧
    (∀ p ∈ regL n gs, hasP (regL n ys) p = agr g p) ∧ (∀ p ∈ regL n gs, hasP (regL n zs) p = !agr g p) ∧ lossR n gs g = (((regL n zs).length : Int), 0) ∧ lossR n gs o = (((regL n ys).length : Int), 0) ∧
    knownR n gs g = if (regL n gs).length = 0 then (0, 12) else if (regL n zs).length = 0 then (1, 0) else if (regL n ys).length = 0 then (-1, 0) else (0, 0) := by
  subst ho
  subst hy
  subst hz
  have hey : errH n (gs ++ [g]) = 0 := errH_of n _ h1 h7 (by simp; omega) (fun x hx => by rcases List.mem_append.1 hx with h | h; exact he x h; obtain rfl : x = g := (by simpa using h); exact hg)
  have hez : errH n (gs ++ [oppG g]) = 0 := errH_of n _ h1 h7 (by simp; omega) (fun x hx => by rcases List.mem_append.1 hx with h | h; exact he x h; obtain rfl : x = oppG g := (by simpa using h); exact hg1)
  have l2 := loss_eq n gs (oppG g) h0 hg1
  rw [opp_opp] at l2
  refine ⟨fun p hp => ?_, region_eq n gs h0, region_eq n _ hey, region_eq n _ hez, more_sum n gs g, fun p hp => has_yes n gs g p hp, fun p hp => has_no n gs g p hp, loss_eq n gs g h0 hg, l2, known_eq n gs g h0 hg⟩
  have hp' : p ∈ gridL n := (List.mem_filter.1 hp).1
  have := mem_grid.1 hp'
  exact ⟨⟨by omega, by omega⟩, ⟨by omega, by omega⟩⟩

theorem Inv.lessC {w W : World} {G : List (Option Addr × Nat × List Gl)} {P : List (Option Addr × List Pl)} {I : List (Option Addr × List Int)} {x : Nat × Nat × Value} {C : List (Nat × Nat × Value)} (h : Inv w W G P I (x :: C)) : Inv w W G P I C :=
  ⟨h.1, h.2.1, h.2.2.1, fun y hy => h.2.2.2.1 y (List.mem_cons_of_mem _ hy), h.2.2.2.2⟩
set_option maxRecDepth 100000 in
set_option maxHeartbeats 40000000 in
theorem SeamMore_any (s m : Nat) (ls : List By) (hs : s < 256) (hm : m < 256) (hls : ls.length = 10) (hok : ∀ x ∈ ls, okB x) (x : By) (hx : okB x) (w : World) :
    Calls Try.prog 10 #[.agg (digCells s m ls), .agg #[.int .u8 x.1, .int .u8 x.2.1, .int .u8 x.2.2.1, .int .u8 x.2.2.2]] w fun e w' => e = .returned (.bool true) ∧ Below w.heap.size w w' := by
  obtain ⟨n, hn⟩ : ∃ n, n = 1 + s % 7 := ⟨_, rfl⟩
  have hn1 : 1 ≤ n := by omega
  have hn7 : n ≤ 7 := by have := Nat.mod_lt s (show 0 < 7 by decide); omega
  have c0 := fun W => made_at 7 9 s m ls n hn (by decide) (by decide) (by decide) hs hm hls hok W 7 9 rfl rfl
  have C0 := Lib.hid c0
  have HLS := Lib.hid hls
  have hb0 : Below w.heap.size w ((w.alloc (.cells (digCells s m ls) 90)).alloc (.cells #[.int .u8 x.1, .int .u8 x.2.1, .int .u8 x.2.2.1, .int .u8 x.2.2.2] 87)) := below_two w _ _
  have hdg : DigAt ((w.alloc (.cells (digCells s m ls) 90)).alloc (.cells #[.int .u8 x.1, .int .u8 x.2.1, .int .u8 x.2.2.1, .int .u8 x.2.2.2] 87)) w.heap.size s m ls := (DigAt.new w s m ls).below (N := w.heap.size + 1) (by omega) ((Below.refl _ _).alloc (by simp) _)
  have HDG := Lib.hid hdg
  have hi0 : Inv w ((w.alloc (.cells (digCells s m ls) 90)).alloc (.cells #[.int .u8 x.1, .int .u8 x.2.1, .int .u8 x.2.2.1, .int .u8 x.2.2.2] 87)) [] [] [] [(w.heap.size + 1, 3, .int .u8 x.2.2.2), (w.heap.size + 1, 2, .int .u8 x.2.2.1), (w.heap.size + 1, 1, .int .u8 x.2.1), (w.heap.size + 1, 0, .int .u8 x.1)] :=
    (((((Inv.start w).go hb0).addC (b := w.heap.size + 1) (o := 0) (v := .int .u8 x.1) (by simp) (by simp)).addC (b := w.heap.size + 1) (o := 1) (v := .int .u8 x.2.1) (by simp) (by simp)).addC (b := w.heap.size + 1) (o := 2) (v := .int .u8 x.2.2.1) (by simp) (by simp)).addC (b := w.heap.size + 1) (o := 3) (v := .int .u8 x.2.2.2) (by simp) (by simp)
  have HI0 := Lib.hid hi0
  have hge := digG_err n 9 m ls hn1 hn7
  have hgl := digG_len n 9 m ls
  have h0 := digG_errH n 9 m ls hn1 hn7 (by decide)
  have hg0 := line_err n x hn1 hn7
  have hg1 := opp_line_err n x hn1 hn7
  obtain ⟨x0, x1, x2, x3⟩ := x
  obtain ⟨xa, xb, xc, xd⟩ := hx
  have cl := fun W => line_any n x0 x1 x2 x3 W hn1 hn7 xa xb xc xd
  generalize digG n 9 m ls = gs at *
  generalize lineOf n (x0, x1, x2, x3) = g at *
  obtain ⟨hpl, hreg, hry, hrn, hsum, hyes, hno, hls1, hls2, hkn⟩ := more_facts n gs _ _ g _ rfl rfl rfl hn1 hn7 h0 hge hg0 hg1 hgl
  have hog := okGs_of hge
  have hokg := (errG_ok hg0).1
  have hlf := fun q c W (h : RowG W q gs) => left_any n q c gs W hn7 hog h (by omega)
  have hrl := regL_len n gs hn7
  have hself : (regL n gs == regL n gs) = true := beq_self_eq_true _
  generalize regL n gs = R at *
  generalize regL n (gs ++ [g]) = RY at *
  generalize regL n (gs ++ [oppG g]) = RN at *
  have hw : IntKind.i64.wrap ((RY.length : Int) + RN.length) = R.length := by rw [IntWalk.i64_in _ ⟨by omega, by omega⟩]; omega
  obtain ⟨ga, gb, gc⟩ := g
  have HPL := Lib.hid hpl
  have HREG := Lib.hid hreg
  have HRY0 := Lib.hid hry
  have HRN0 := Lib.hid hrn
  have HYES := Lib.hid hyes
  have HNO := Lib.hid hno
  have HLS1 := Lib.hid hls1
  have HLS20 := Lib.hid hls2
  have HKN := Lib.hid hkn
  have HOG := Lib.hid hog
  have HOG0 := Lib.hid hokg
  have HLF := Lib.hid hlf
  have HSELF := Lib.hid hself
  have HSUM := Lib.hid hsum
  have HW := Lib.hid hw
  have hly : RY.length ≤ 49 := by omega
  have hlz : RN.length ≤ 49 := by omega
  clear hpl hreg hry hrn hsum hyes hno hls1 hls2 hkn hog hokg hlf hself hw
  have CL := Lib.hid cl
  have HGE := Lib.hid hge
  have H0 := Lib.hid h0
  have HG0 := Lib.hid hg0
  have HG1 := Lib.hid hg1
  clear c0 hn hs hm hok hls hb0 hdg hi0 hge h0 hg0 hg1 cl xa xb xc xd
  dsimp only at *
  go_enter Try.func10, Try.ntmps10
  go_upto_region 2 with (first
    | (refine wpList_load90 _ _ s m ls HLS.out HDG.out (.tmp 2) rfl rfl rfl ?_)
    | (go_at_call 63; refine (C0.out _).mono ?_; rintro e w1 ⟨q, c, rfl, hown, hb1⟩))
  obtain ⟨q', c', e', hr1, hq1⟩ := owns_cap hown
  injection e' with e2 _ e3
  subst e2; subst e3
  have hI := ((((HI0.out.go hb1).alloc (.cells #[.int .i64 n, .slice q gs.length c] 24)).addG (hr1.below (Nat.le_refl _) ((Below.refl _ w1).alloc (Nat.le_refl _) _)) hq1).addC (b := w1.heap.size) (o := 0) (v := .int .i64 n) (by simp) (by simp)).addC (b := w1.heap.size) (o := 1) (v := .slice q gs.length c) (by simp) (by simp)
  have HI := Lib.hid hI
  have hx1 : w.heap.size + 1 < w1.heap.size := by have := hb1.size; simp at this; omega
  clear hown hb1 hr1 hq1 C0 HDG HLS hI HI0
  generalize (w1.alloc (.cells #[.int .i64 n, .slice q gs.length c] 24)) = W1 at *
  generalize w1.heap.size = B at *
  have k0 := HI.out.c (b := B) (o := 0) (v := .int .i64 n) (by simp)
  have k1 := HI.out.c (b := B) (o := 1) (v := .slice q gs.length c) (by simp)
  have a0 := HI.out.c (b := w.heap.size + 1) (o := 0) (v := .int .u8 x0) (by simp)
  have a1 := HI.out.c (b := w.heap.size + 1) (o := 1) (v := .int .u8 x1) (by simp)
  have a2 := HI.out.c (b := w.heap.size + 1) (o := 2) (v := .int .u8 x2) (by simp)
  have a3 := HI.out.c (b := w.heap.size + 1) (o := 3) (v := .int .u8 x3) (by simp)
  go_upto_region 3 with (go_at_call 74; refine (HI.out.scalar (CL.out _) rfl).mono ?_; rintro e W ⟨rfl, hI⟩; clear k0 k1 a0 a1 a2 a3 HI)
  have hI := ((hI.alloc (.cells #[.int .i64 ga, .int .i64 gb, .int .i64 gc] 28)).addC (b := W.heap.size) (o := 0) (v := .int .i64 ga) (by simp) (by simp)).addC (b := W.heap.size) (o := 1) (v := .int .i64 gb) (by simp) (by simp) |>.addC (b := W.heap.size) (o := 2) (v := .int .i64 gc) (by simp) (by simp)
  generalize (W.alloc (.cells #[.int .i64 ga, .int .i64 gb, .int .i64 gc] 28)) = W2 at *
  generalize W.heap.size = BG at *
  have HI := Lib.hid hI
  clear hI CL
  have k0 := HI.out.c (b := BG) (o := 0) (v := .int .i64 ga) (by simp)
  have k1 := HI.out.c (b := BG) (o := 1) (v := .int .i64 gb) (by simp)
  have k2 := HI.out.c (b := BG) (o := 2) (v := .int .i64 gc) (by simp)
  obtain ⟨⟨⟨ga1, ga2⟩, ⟨gb1, gb2⟩⟩, gc1, gc2⟩ := errG_ok HG0.out
  obtain ⟨na, hna⟩ : ∃ na, -ga = na := ⟨_, rfl⟩
  obtain ⟨nb, hnb⟩ : ∃ nb, -gb = nb := ⟨_, rfl⟩
  obtain ⟨nd, hnd⟩ : ∃ nd, -gc = nd := ⟨_, rfl⟩
  obtain ⟨nc, hnc⟩ : ∃ nc, nd - 1 = nc := ⟨_, rfl⟩
  have hop : oppG (ga, gb, gc) = (na, nb, nc) := by rw [← hnc, ← hnd, ← hna, ← hnb]; rfl
  have HOP := Lib.hid hop
  have hopp : oppositeOf (ga, gb, gc) = ((na, nb, nc), 0) := by rw [oppositeOf, if_neg (by simp [HG0.out]), hop]
  have cop := fun W => Opposite_any (ga, gb, gc) W
  simp only [hopp] at cop
  have COP := Lib.hid cop
  have I1 := Lib.hid (show IntKind.i64.wrap (-ga) = na by rw [IntWalk.i64_in _ ⟨by dsimp only at *; omega, by dsimp only at *; omega⟩, hna])
  have I2 := Lib.hid (show IntKind.i64.wrap (-gb) = nb by rw [IntWalk.i64_in _ ⟨by dsimp only at *; omega, by dsimp only at *; omega⟩, hnb])
  have I3 := Lib.hid (show IntKind.i64.wrap (-gc) = nd by rw [IntWalk.i64_in _ ⟨by dsimp only at *; omega, by dsimp only at *; omega⟩, hnd])
  have I4 := Lib.hid (show IntKind.i64.wrap (nd - 1) = nc by rw [IntWalk.i64_in _ ⟨by dsimp only at *; omega, by dsimp only at *; omega⟩, hnc])
  clear hna hnb hnd hnc hop hopp cop ga1 ga2 gb1 gb2 gc1 gc2
  go_upto_region 4 with (go_at_call 25; refine (HI.out.scalar (COP.out _) rfl).mono ?_; rintro e W ⟨rfl, hI⟩; clear k0 k1 k2 HI)
  have hI := ((hI.alloc (.cells #[.int .i64 na, .int .i64 nb, .int .i64 nc] 28)).addC (b := W.heap.size) (o := 0) (v := .int .i64 na) (by simp) (by simp)).addC (b := W.heap.size) (o := 1) (v := .int .i64 nb) (by simp) (by simp) |>.addC (b := W.heap.size) (o := 2) (v := .int .i64 nc) (by simp) (by simp)
  generalize (W.alloc (.cells #[.int .i64 na, .int .i64 nb, .int .i64 nc] 28)) = W3 at *
  generalize W.heap.size = BO at *
  have HI := Lib.hid (hI.go (Below.refl _ _).drew)
  clear COP
  have k0 := hI.c (b := BG) (o := 0) (v := .int .i64 ga) (by simp)
  have k1 := hI.c (b := BG) (o := 1) (v := .int .i64 gb) (by simp)
  have k2 := hI.c (b := BG) (o := 2) (v := .int .i64 gc) (by simp)
  have k3 := hI.c (b := BO) (o := 0) (v := .int .i64 na) (by simp)
  have k4 := hI.c (b := BO) (o := 1) (v := .int .i64 nb) (by simp)
  have k5 := hI.c (b := BO) (o := 2) (v := .int .i64 nc) (by simp)
  have i1 := I1.out
  have i2 := I2.out
  have i3 := I3.out
  have i4 := I4.out
  clear hI
  go_region_held3 (fun W => W.cell? ⟨BG, 0, none⟩ = some (.int .i64 ga) ∧ W.cell? ⟨BG, 1, none⟩ = some (.int .i64 gb) ∧ W.cell? ⟨BG, 2, none⟩ = some (.int .i64 gc) ∧ W.cell? ⟨BO, 0, none⟩ = some (.int .i64 na) ∧ W.cell? ⟨BO, 1, none⟩ = some (.int .i64 nb) ∧ W.cell? ⟨BO, 2, none⟩ = some (.int .i64 nc)) (first | exact ⟨c0, c1, c2, c3, c4, c5⟩ | go_keep)
    ((go_at_call 75; refine (HI.out.gal na nb nc).mono ?_; rintro e W ⟨rfl, hI⟩; have HJ := Lib.hid hI; clear hI; have c0 := HJ.out.c (b := BG) (o := 0) (v := .int .i64 ga) (by simp); have c1 := HJ.out.c (b := BG) (o := 1) (v := .int .i64 gb) (by simp); have c2 := HJ.out.c (b := BG) (o := 2) (v := .int .i64 gc) (by simp); have c3 := HJ.out.c (b := BO) (o := 0) (v := .int .i64 na) (by simp); have c4 := HJ.out.c (b := BO) (o := 1) (v := .int .i64 nb) (by simp); have c5 := HJ.out.c (b := BO) (o := 2) (v := .int .i64 nc) (by simp)))
  clear k0 k1 k2 k3 k4 k5 i1 i2 i3 i4 HI
  go_upto_region 6 with fail
  clear c0 c1 c2 c3 c4 c5
  obtain ⟨ys, hys⟩ : ∃ ys, gs ++ [(ga, gb, gc)] = ys := ⟨_, rfl⟩
  have hyl : ys.length = gs.length + 1 := by rw [← hys]; simp
  have HYS := Lib.hid hys
  have hd : Below W.heap.size W W.drew := (Below.refl _ _).drew
  have HDW := Lib.hid hd
  have HI := Lib.hid HJ.out
  have k0 := HJ.out.c (b := B) (o := 0) (v := .int .i64 n) (by simp)
  have k1 := HJ.out.c (b := B) (o := 1) (v := .slice q gs.length c) (by simp)
  have k2 := HJ.out.c (b := BG) (o := 0) (v := .int .i64 ga) (by simp)
  have k3 := HJ.out.c (b := BG) (o := 1) (v := .int .i64 gb) (by simp)
  have k4 := HJ.out.c (b := BG) (o := 2) (v := .int .i64 gc) (by simp)
  have HRd := Lib.hid (HI.out.1 (q, c, gs) (by simp))
  have hB := HJ.out.lt (b := B) (o := 0) (v := .int .i64 n) (by simp)
  have hBG := HJ.out.lt (b := BG) (o := 0) (v := .int .i64 ga) (by simp)
  have HB := Lib.hid (HI.out.lt (b := B) (o := 0) (v := .int .i64 n) (by simp))
  have HBG := Lib.hid (HI.out.lt (b := BG) (o := 0) (v := .int .i64 ga) (by simp))
  have hde : W.drew.heap.size = W.heap.size := by simp
  clear hys hd
  go_cut [9] from 50 to 67 (fun v wx => HillNew W n ys v wx)
  case first =>
    go_region_held3 (fun W => W.cell? ⟨B, 0, none⟩ = some (.int .i64 n) ∧ W.cell? ⟨B, 1, none⟩ = some (.slice q gs.length c) ∧ W.cell? ⟨BG, 0, none⟩ = some (.int .i64 ga) ∧ W.cell? ⟨BG, 1, none⟩ = some (.int .i64 gb) ∧ W.cell? ⟨BG, 2, none⟩ = some (.int .i64 gc)) (first | exact ⟨c0, c1, c2, c3, c4⟩ | exact ⟨d0, d1, d2, d3, d4⟩ | exact ⟨ks d0 (by omega), ks d1 (by omega), ks d2 (by omega), ks d3 (by omega), ks d4 (by omega)⟩ | exact ⟨ka d0 (by omega), ka d1 (by omega), ka d2 (by omega), ka d3 (by omega), ka d4 (by omega)⟩ | go_keep)
      (first
      | (go_at_call 76; refine (cloneG_any q c gs _ (by first | exact HRd.out.1.below (Nat.le_refl _) HDW.out | exact HRd.out.1.below (Nat.le_refl _) (dw1 _ _) | exact HRd.out.1.below (Nat.le_refl _) (dw2 _ _ _)) HRd.out.2 (by omega)).mono ?_; rintro e v2 ⟨zv, rfl, hown, hav⟩; have HOW := Lib.hid hown; have HAV := Lib.hid hav; have hbv : Below W.heap.size W v2 := (by first | exact HDW.out.trans (hav.mono HDW.out.size) | exact (dw1 _ _).trans (hav.mono (dw1 _ _).size) | exact (dw2 _ _ _).trans (hav.mono (dw2 _ _ _).size)); have HBV := Lib.hid hbv; have hJ := HI.out.go hbv; have c0 := hJ.c (b := B) (o := 0) (v := .int .i64 n) (by simp); have c1 := hJ.c (b := B) (o := 1) (v := .slice q gs.length c) (by simp); have c2 := hJ.c (b := BG) (o := 0) (v := .int .i64 ga) (by simp); have c3 := hJ.c (b := BG) (o := 1) (v := .int .i64 gb) (by simp); have c4 := hJ.c (b := BG) (o := 2) (v := .int .i64 gc) (by simp); have hsv := hbv.size; have HO2 : Hid (v2.ownsRow W.heap.size 28 3 zv gs.length (flatG gs)) := (by first | exact Lib.hid (HOW.out.mono HDW.out.size) | exact Lib.hid (HOW.out.mono (dw1 _ _).size) | exact Lib.hid (HOW.out.mono (dw2 _ _ _).size)); (first | (refine cutIn (T := Hid (Cell2 v2 (W.heap.size) (.int .i64 0) (.slice none 0 0))) ?_ (fun CA => ?_); (focus (with_reducible refine Lib.hid ((c2_d0 W).below ?_ hav); (simp; done)))) | (refine cutIn (T := Hid (Cell2 v2 (W.heap.size) (.int .i64 0) (.slice none 0 0))) ?_ (fun CA => ?_); (focus (with_reducible refine Lib.hid ((c2_d01 W _).below ?_ hav); (first | (simp; done) | (simp; omega))))) | (refine cutIn (T := Hid (Cell2 v2 (W.heap.size + 1) (.int .i64 0) (.slice none 0 0))) ?_ (fun CA => ?_); (focus (with_reducible refine Lib.hid ((c2_d1 W _).below ?_ hav); (first | (simp; done) | (simp; omega))))) | (have CA := trivial)); clear hJ hown hav hbv)
      | (refine step_gal _ (by rfl) (.tmp 54) (.tmp 56) (by rfl) W.heap.size zv gs (ga, gb, gc) (by rfl) (by first | exact HO2.out | exact HO2.out.alloc _ | exact (HO2.out.alloc _).alloc _) _ 1 (by rfl) (by first | (simp; done) | exact (lc1 HAV.out).1.1 | exact ka (lc1 HAV.out).1.1 (lc1 HAV.out).2 | exact (lc2 HAV.out).1.1 | exact (lc3 HAV.out).1.1) (by first | (simp; done) | exact (lc1 HAV.out).1.2.1 | exact ka (lc1 HAV.out).1.2.1 (lc1 HAV.out).2 | exact (lc2 HAV.out).1.2.1 | exact (lc3 HAV.out).1.2.1) (by first | (simp; done) | exact (lc1 HAV.out).1.2.2 | exact ka (lc1 HAV.out).1.2.2 (lc1 HAV.out).2 | exact (lc2 HAV.out).1.2.2 | exact (lc3 HAV.out).1.2.2) (by omega) (by first | omega | (simp; omega) | (simp; done)) ?_; intro v' w3 hown3 hgrow hblk; rw [HYS.out] at hown3; obtain ⟨g', c', rfl⟩ := owns_some hown3 (by omega); have RW := Lib.hid (rowG_own hown3); (first | (refine cutIn (T := Cell2 w3 (W.heap.size) (.int .i64 0) (.slice none 0 0) ∧ g' ≠ W.heap.size) ?_ (fun DA => ?_); (focus (with_reducible refine grown_c2 hgrow CA.out ?_ hblk; (intro k hk; have h1 := (HOW.out.lt k hk).1; first | omega | (simp at h1; omega)))); have HDA := Lib.hid DA; obtain ⟨⟨y0, y1, y2, y3, y4⟩, hga⟩ := DA) | (refine cutIn (T := Cell2 w3 (W.heap.size + 1) (.int .i64 0) (.slice none 0 0) ∧ g' ≠ W.heap.size + 1) ?_ (fun DA => ?_); (focus (with_reducible refine grown_c2 hgrow CA.out ?_ hblk; (intro k hk; have h1 := (HOW.out.lt k hk).1; first | omega | (simp at h1; omega)))); have HDA := Lib.hid DA; obtain ⟨⟨y0, y1, y2, y3, y4⟩, hga⟩ := DA) | (refine cutIn (T := Cell2 w3 (W.heap.size) (.int .i64 0) (.slice none 0 0) ∧ g' ≠ W.heap.size) ?_ (fun DA => ?_); (focus (with_reducible refine grown_c2 hgrow (c2_alloc CA.out) ?_ hblk; (intro k hk; have h1 := (HOW.out.lt k hk).1; first | omega | (simp at h1; omega)))); have HDA := Lib.hid DA; obtain ⟨⟨y0, y1, y2, y3, y4⟩, hga⟩ := DA) | (refine cutIn (T := Cell2 w3 (W.heap.size + 1) (.int .i64 0) (.slice none 0 0) ∧ g' ≠ W.heap.size + 1) ?_ (fun DA => ?_); (focus (with_reducible refine grown_c2 hgrow (c2_alloc CA.out) ?_ hblk; (intro k hk; have h1 := (HOW.out.lt k hk).1; first | omega | (simp at h1; omega)))); have HDA := Lib.hid DA; obtain ⟨⟨y0, y1, y2, y3, y4⟩, hga⟩ := DA) | (refine cutIn (T := Cell2 w3 (v2.heap.size) (.int .i64 0) (.slice none 0 0) ∧ g' ≠ v2.heap.size) ?_ (fun DA => ?_); (focus (with_reducible refine grown_c2 hgrow (c2_new0 v2) ?_ hblk; (intro k hk; have h1 := (HOW.out.lt k hk).2; omega))); have HDA := Lib.hid DA; obtain ⟨⟨y0, y1, y2, y3, y4⟩, hga⟩ := DA) | (refine cutIn (T := Cell2 w3 (v2.heap.size) (.int .i64 0) (.slice none 0 0) ∧ g' ≠ v2.heap.size) ?_ (fun DA => ?_); (focus (with_reducible refine grown_c2 hgrow (c2_alloc (c2_new0 v2)) ?_ hblk; (intro k hk; have h1 := (HOW.out.lt k hk).2; omega))); have HDA := Lib.hid DA; obtain ⟨⟨y0, y1, y2, y3, y4⟩, hga⟩ := DA) | (refine cutIn (T := Cell2 w3 (v2.heap.size + 1) (.int .i64 0) (.slice none 0 0) ∧ g' ≠ v2.heap.size + 1) ?_ (fun DA => ?_); (focus (with_reducible refine grown_c2 hgrow (c2_new1 v2 _) ?_ hblk; (intro k hk; have h1 := (HOW.out.lt k hk).2; omega))); have HDA := Lib.hid DA; obtain ⟨⟨y0, y1, y2, y3, y4⟩, hga⟩ := DA) | (have DA := trivial)); have hbw : Below W.heap.size W w3 := (by first | exact HBV.out.trans (grown_below HO2.out hsv hgrow) | exact HBV.out.trans (grown_al HO2.out hsv hgrow) | exact (HBV.out.alloc hsv _).trans (grown_al (HO2.out.alloc _) (by simp; omega) hgrow)); have HBW := Lib.hid hbw; have hJ := HI.out.go hbw; have d0 := hJ.c (b := B) (o := 0) (v := .int .i64 n) (by simp); have d1 := hJ.c (b := B) (o := 1) (v := .slice q gs.length c) (by simp); have d2 := hJ.c (b := BG) (o := 0) (v := .int .i64 ga) (by simp); have d3 := hJ.c (b := BG) (o := 1) (v := .int .i64 gb) (by simp); have d4 := hJ.c (b := BG) (o := 2) (v := .int .i64 gc) (by simp); have hs3 := hbw.size; clear hJ hbw hown3 hgrow hblk)
      | fail)
    all_goals
      go_wp2
      go_meet
      case rel =>
        first
        | exact more_end hyl rfl HBW.out (by omega) HDA.out RW.out
        | exact more_end2 hyl rfl HBW.out RW.out
  case rest =>
    obtain ⟨b9, q9, c9, rfl, hr9, hq9, e90, e91, hl9, hb9⟩ := hcut
    have HYL := Lib.hid hyl
    clear hyl
    have hI := ((HJ.out.go hb9).addG hr9 hq9 |>.addC (b := b9) (o := 0) (v := .int .i64 n) e90 hl9).addC (b := b9) (o := 1) (v := .slice q9 ys.length c9) e91 hl9
    clear k0 k1 k2 k3 k4 hB hBG hde HI HJ HRd HB HBG HDW hr9 hq9 e90 e91 hl9 hb9
    have HJ := Lib.hid hI
    clear hI
    go_upto_region 7 with fail
    obtain ⟨zs, hzs⟩ : ∃ zs, gs ++ [(na, nb, nc)] = zs := ⟨_, rfl⟩
    have hyl : zs.length = gs.length + 1 := by rw [← hzs]; simp
    have HZS := Lib.hid hzs
    have hd : Below wc.heap.size wc wc.drew := (Below.refl _ _).drew
    have HDW := Lib.hid hd
    have HI := Lib.hid HJ.out
    have k0 := HJ.out.c (b := B) (o := 0) (v := .int .i64 n) (by simp)
    have k1 := HJ.out.c (b := B) (o := 1) (v := .slice q gs.length c) (by simp)
    have k2 := HJ.out.c (b := BO) (o := 0) (v := .int .i64 na) (by simp)
    have k3 := HJ.out.c (b := BO) (o := 1) (v := .int .i64 nb) (by simp)
    have k4 := HJ.out.c (b := BO) (o := 2) (v := .int .i64 nc) (by simp)
    have HRd := Lib.hid (HI.out.1 (q, c, gs) (by simp))
    have hB := HJ.out.lt (b := B) (o := 0) (v := .int .i64 n) (by simp)
    have hBG := HJ.out.lt (b := BO) (o := 0) (v := .int .i64 na) (by simp)
    have HB := Lib.hid (HI.out.lt (b := B) (o := 0) (v := .int .i64 n) (by simp))
    have HBG := Lib.hid (HI.out.lt (b := BO) (o := 0) (v := .int .i64 na) (by simp))
    have hde : wc.drew.heap.size = wc.heap.size := by simp
    clear hzs hd
    go_cut [10] from 59 to 67 (fun v wx => HillNew wc n zs v wx)
    case first =>
      go_region_held3 (fun WW => WW.cell? ⟨B, 0, none⟩ = some (.int .i64 n) ∧ WW.cell? ⟨B, 1, none⟩ = some (.slice q gs.length c) ∧ WW.cell? ⟨BO, 0, none⟩ = some (.int .i64 na) ∧ WW.cell? ⟨BO, 1, none⟩ = some (.int .i64 nb) ∧ WW.cell? ⟨BO, 2, none⟩ = some (.int .i64 nc)) (first | exact ⟨c0, c1, c2, c3, c4⟩ | exact ⟨d0, d1, d2, d3, d4⟩ | exact ⟨ks d0 (by omega), ks d1 (by omega), ks d2 (by omega), ks d3 (by omega), ks d4 (by omega)⟩ | exact ⟨ka d0 (by omega), ka d1 (by omega), ka d2 (by omega), ka d3 (by omega), ka d4 (by omega)⟩ | go_keep)
        (first
        | (go_at_call 76; refine (cloneG_any q c gs _ (by first | exact HRd.out.1.below (Nat.le_refl _) HDW.out | exact HRd.out.1.below (Nat.le_refl _) (dw1 _ _) | exact HRd.out.1.below (Nat.le_refl _) (dw2 _ _ _)) HRd.out.2 (by omega)).mono ?_; rintro e v2 ⟨zv, rfl, hown, hav⟩; have HOW := Lib.hid hown; have HAV := Lib.hid hav; have hbv : Below wc.heap.size wc v2 := (by first | exact HDW.out.trans (hav.mono HDW.out.size) | exact (dw1 _ _).trans (hav.mono (dw1 _ _).size) | exact (dw2 _ _ _).trans (hav.mono (dw2 _ _ _).size)); have HBV := Lib.hid hbv; have hJ := HI.out.go hbv; have c0 := hJ.c (b := B) (o := 0) (v := .int .i64 n) (by simp); have c1 := hJ.c (b := B) (o := 1) (v := .slice q gs.length c) (by simp); have c2 := hJ.c (b := BO) (o := 0) (v := .int .i64 na) (by simp); have c3 := hJ.c (b := BO) (o := 1) (v := .int .i64 nb) (by simp); have c4 := hJ.c (b := BO) (o := 2) (v := .int .i64 nc) (by simp); have hsv := hbv.size; have HO2 : Hid (v2.ownsRow wc.heap.size 28 3 zv gs.length (flatG gs)) := (by first | exact Lib.hid (HOW.out.mono HDW.out.size) | exact Lib.hid (HOW.out.mono (dw1 _ _).size) | exact Lib.hid (HOW.out.mono (dw2 _ _ _).size)); (first | (refine cutIn (T := Hid (Cell2 v2 (wc.heap.size) (.int .i64 0) (.slice none 0 0))) ?_ (fun CA => ?_); (focus (with_reducible refine Lib.hid ((c2_d0 wc).below ?_ hav); (simp; done)))) | (refine cutIn (T := Hid (Cell2 v2 (wc.heap.size) (.int .i64 0) (.slice none 0 0))) ?_ (fun CA => ?_); (focus (with_reducible refine Lib.hid ((c2_d01 wc _).below ?_ hav); (first | (simp; done) | (simp; omega))))) | (refine cutIn (T := Hid (Cell2 v2 (wc.heap.size + 1) (.int .i64 0) (.slice none 0 0))) ?_ (fun CA => ?_); (focus (with_reducible refine Lib.hid ((c2_d1 wc _).below ?_ hav); (first | (simp; done) | (simp; omega))))) | (have CA := trivial)); clear hJ hown hav hbv)
        | (refine step_gal _ (by rfl) (.tmp 63) (.tmp 65) (by rfl) wc.heap.size zv gs (na, nb, nc) (by rfl) (by first | exact HO2.out | exact HO2.out.alloc _ | exact (HO2.out.alloc _).alloc _) _ 1 (by rfl) (by first | (simp; done) | exact (lc1 HAV.out).1.1 | exact ka (lc1 HAV.out).1.1 (lc1 HAV.out).2 | exact (lc2 HAV.out).1.1 | exact (lc3 HAV.out).1.1) (by first | (simp; done) | exact (lc1 HAV.out).1.2.1 | exact ka (lc1 HAV.out).1.2.1 (lc1 HAV.out).2 | exact (lc2 HAV.out).1.2.1 | exact (lc3 HAV.out).1.2.1) (by first | (simp; done) | exact (lc1 HAV.out).1.2.2 | exact ka (lc1 HAV.out).1.2.2 (lc1 HAV.out).2 | exact (lc2 HAV.out).1.2.2 | exact (lc3 HAV.out).1.2.2) (by omega) (by first | omega | (simp; omega) | (simp; done)) ?_; intro v' w3 hown3 hgrow hblk; rw [HZS.out] at hown3; obtain ⟨g', c', rfl⟩ := owns_some hown3 (by omega); have RW := Lib.hid (rowG_own hown3); (first | (refine cutIn (T := Cell2 w3 (wc.heap.size) (.int .i64 0) (.slice none 0 0) ∧ g' ≠ wc.heap.size) ?_ (fun DA => ?_); (focus (with_reducible refine grown_c2 hgrow CA.out ?_ hblk; (intro k hk; have h1 := (HOW.out.lt k hk).1; first | omega | (simp at h1; omega)))); have HDA := Lib.hid DA; obtain ⟨⟨y0, y1, y2, y3, y4⟩, hga⟩ := DA) | (refine cutIn (T := Cell2 w3 (wc.heap.size + 1) (.int .i64 0) (.slice none 0 0) ∧ g' ≠ wc.heap.size + 1) ?_ (fun DA => ?_); (focus (with_reducible refine grown_c2 hgrow CA.out ?_ hblk; (intro k hk; have h1 := (HOW.out.lt k hk).1; first | omega | (simp at h1; omega)))); have HDA := Lib.hid DA; obtain ⟨⟨y0, y1, y2, y3, y4⟩, hga⟩ := DA) | (refine cutIn (T := Cell2 w3 (wc.heap.size) (.int .i64 0) (.slice none 0 0) ∧ g' ≠ wc.heap.size) ?_ (fun DA => ?_); (focus (with_reducible refine grown_c2 hgrow (c2_alloc CA.out) ?_ hblk; (intro k hk; have h1 := (HOW.out.lt k hk).1; first | omega | (simp at h1; omega)))); have HDA := Lib.hid DA; obtain ⟨⟨y0, y1, y2, y3, y4⟩, hga⟩ := DA) | (refine cutIn (T := Cell2 w3 (wc.heap.size + 1) (.int .i64 0) (.slice none 0 0) ∧ g' ≠ wc.heap.size + 1) ?_ (fun DA => ?_); (focus (with_reducible refine grown_c2 hgrow (c2_alloc CA.out) ?_ hblk; (intro k hk; have h1 := (HOW.out.lt k hk).1; first | omega | (simp at h1; omega)))); have HDA := Lib.hid DA; obtain ⟨⟨y0, y1, y2, y3, y4⟩, hga⟩ := DA) | (refine cutIn (T := Cell2 w3 (v2.heap.size) (.int .i64 0) (.slice none 0 0) ∧ g' ≠ v2.heap.size) ?_ (fun DA => ?_); (focus (with_reducible refine grown_c2 hgrow (c2_new0 v2) ?_ hblk; (intro k hk; have h1 := (HOW.out.lt k hk).2; omega))); have HDA := Lib.hid DA; obtain ⟨⟨y0, y1, y2, y3, y4⟩, hga⟩ := DA) | (refine cutIn (T := Cell2 w3 (v2.heap.size) (.int .i64 0) (.slice none 0 0) ∧ g' ≠ v2.heap.size) ?_ (fun DA => ?_); (focus (with_reducible refine grown_c2 hgrow (c2_alloc (c2_new0 v2)) ?_ hblk; (intro k hk; have h1 := (HOW.out.lt k hk).2; omega))); have HDA := Lib.hid DA; obtain ⟨⟨y0, y1, y2, y3, y4⟩, hga⟩ := DA) | (refine cutIn (T := Cell2 w3 (v2.heap.size + 1) (.int .i64 0) (.slice none 0 0) ∧ g' ≠ v2.heap.size + 1) ?_ (fun DA => ?_); (focus (with_reducible refine grown_c2 hgrow (c2_new1 v2 _) ?_ hblk; (intro k hk; have h1 := (HOW.out.lt k hk).2; omega))); have HDA := Lib.hid DA; obtain ⟨⟨y0, y1, y2, y3, y4⟩, hga⟩ := DA) | (have DA := trivial)); have hbw : Below wc.heap.size wc w3 := (by first | exact HBV.out.trans (grown_below HO2.out hsv hgrow) | exact HBV.out.trans (grown_al HO2.out hsv hgrow) | exact (HBV.out.alloc hsv _).trans (grown_al (HO2.out.alloc _) (by simp; omega) hgrow)); have HBW := Lib.hid hbw; have hJ := HI.out.go hbw; have d0 := hJ.c (b := B) (o := 0) (v := .int .i64 n) (by simp); have d1 := hJ.c (b := B) (o := 1) (v := .slice q gs.length c) (by simp); have d2 := hJ.c (b := BO) (o := 0) (v := .int .i64 na) (by simp); have d3 := hJ.c (b := BO) (o := 1) (v := .int .i64 nb) (by simp); have d4 := hJ.c (b := BO) (o := 2) (v := .int .i64 nc) (by simp); have hs3 := hbw.size; clear hJ hbw hown3 hgrow hblk)
        | fail)
      all_goals
        go_wp2
        go_meet
        case rel =>
          first
          | exact more_end hyl rfl HBW.out (by omega) HDA.out RW.out
          | exact more_end2 hyl rfl HBW.out RW.out
    case rest =>
      obtain ⟨b10, q10, c10, rfl, hr10, hq10, e100, e101, hl10, hb10⟩ := hcut
      have HZL := Lib.hid hyl
      clear hyl
      have hI := ((HJ.out.go hb10).addG hr10 hq10 |>.addC (b := b10) (o := 0) (v := .int .i64 n) e100 hl10).addC (b := b10) (o := 1) (v := .slice q10 zs.length c10) e101 hl10
      clear k0 k1 k2 k3 k4 hB hBG hde HI HJ HRd HB HBG HDW hr10 hq10 e100 e101 hl10 hb10
      have HI := Lib.hid hI
      clear hI
      have HRY := Lib.hid (show regionOf n ys = (RY, 0) by rw [← HYS.out]; exact HRY0.out)
      have HRN := Lib.hid (show regionOf n zs = (RN, 0) by rw [← HZS.out, ← HOP.out]; exact HRN0.out)
      have HLS2 := Lib.hid (show lossR n gs (na, nb, nc) = ((RY.length : Int), 0) by rw [← HOP.out]; exact HLS20.out)
      have k0 := HI.out.c (b := B) (o := 0) (v := .int .i64 n) (by simp); have k1 := HI.out.c (b := B) (o := 1) (v := .slice q gs.length c) (by simp); have k2 := HI.out.c (b := b9) (o := 0) (v := .int .i64 n) (by simp); have k3 := HI.out.c (b := b9) (o := 1) (v := .slice q9 ys.length c9) (by simp); have k4 := HI.out.c (b := b10) (o := 0) (v := .int .i64 n) (by simp); have k5 := HI.out.c (b := b10) (o := 1) (v := .slice q10 zs.length c10) (by simp)
      go_upto_region 9 with (go_at_call 23; refine (HI.out.placesErr (Region_any n q c gs _ (HI.out.1 (q, c, gs) (by simp)).1) HREG.out).mono ?_; rintro e W ⟨q3, c3, rfl, hI⟩; clear k0 k1 k2 k3 k4 k5; replace HI := Lib.hid hI; clear hI; have k0 := HI.out.c (b := B) (o := 0) (v := .int .i64 n) (by simp); have k1 := HI.out.c (b := B) (o := 1) (v := .slice q gs.length c) (by simp); have k2 := HI.out.c (b := b9) (o := 0) (v := .int .i64 n) (by simp); have k3 := HI.out.c (b := b9) (o := 1) (v := .slice q9 ys.length c9) (by simp); have k4 := HI.out.c (b := b10) (o := 0) (v := .int .i64 n) (by simp); have k5 := HI.out.c (b := b10) (o := 1) (v := .slice q10 zs.length c10) (by simp))
      go_upto_region 10 with (go_at_call 23; refine (HI.out.placesErr (Region_any n q9 c9 ys _ (HI.out.1 (q9, c9, ys) (by simp)).1) HRY.out).mono ?_; rintro e W ⟨q4, c4, rfl, hI⟩; clear k0 k1 k2 k3 k4 k5; replace HI := Lib.hid hI; clear hI; have k0 := HI.out.c (b := B) (o := 0) (v := .int .i64 n) (by simp); have k1 := HI.out.c (b := B) (o := 1) (v := .slice q gs.length c) (by simp); have k2 := HI.out.c (b := b9) (o := 0) (v := .int .i64 n) (by simp); have k3 := HI.out.c (b := b9) (o := 1) (v := .slice q9 ys.length c9) (by simp); have k4 := HI.out.c (b := b10) (o := 0) (v := .int .i64 n) (by simp); have k5 := HI.out.c (b := b10) (o := 1) (v := .slice q10 zs.length c10) (by simp))
      go_upto_region 11 with (go_at_call 23; refine (HI.out.placesErr (Region_any n q10 c10 zs _ (HI.out.1 (q10, c10, zs) (by simp)).1) HRN.out).mono ?_; rintro e W ⟨q5, c5, rfl, hI⟩; clear k0 k1 k2 k3 k4 k5; replace HI := Lib.hid hI; clear hI; have k0 := HI.out.c (b := B) (o := 0) (v := .int .i64 n) (by simp); have k1 := HI.out.c (b := B) (o := 1) (v := .slice q gs.length c) (by simp); have k2 := HI.out.c (b := b9) (o := 0) (v := .int .i64 n) (by simp); have k3 := HI.out.c (b := b9) (o := 1) (v := .slice q9 ys.length c9) (by simp); have k4 := HI.out.c (b := b10) (o := 0) (v := .int .i64 n) (by simp); have k5 := HI.out.c (b := b10) (o := 1) (v := .slice q10 zs.length c10) (by simp))
      go_upto_region 12 with (go_at_call 64; refine (HI.out.places (ps := R) (HLF.out q c _ (HI.out.1 (q, c, gs) (by simp)).1)).mono ?_; rintro e W ⟨q6, c6, rfl, hI⟩; clear k0 k1 k2 k3 k4 k5; replace HI := Lib.hid hI; clear hI)
      have hw := HW.out
      go_upto_region 14 with (go_at_call 65; refine (HI.out.alike q3 q6 c3 c6 R R true (by simp) (by simp) (by omega) (by omega) HSELF.out).mono ?_; rintro e W ⟨rfl, hI⟩; replace HI := Lib.hid hI; clear hI)
      clear hw
      go_wp2
      go_loopw [116] (fun i wr => ∃ k : Nat, k ≤ R.length ∧ i = .int .i64 k ∧ Inv w wr [(q10, c10, zs), (q9, c9, ys), (q, c, gs)] [(q6, R), (q5, RN), (q4, RY), (q3, R)] [] [(b10, 1, .slice q10 zs.length c10), (b10, 0, .int .i64 n), (b9, 1, .slice q9 ys.length c9), (b9, 0, .int .i64 n), (BO, 2, .int .i64 nc), (BO, 1, .int .i64 nb), (BO, 0, .int .i64 na), (BG, 2, .int .i64 gc), (BG, 1, .int .i64 gb), (BG, 0, .int .i64 ga), (B, 1, .slice q gs.length c), (B, 0, .int .i64 n), (w.heap.size + 1, 3, .int .u8 x3), (w.heap.size + 1, 2, .int .u8 x2), (w.heap.size + 1, 1, .int .u8 x1), (w.heap.size + 1, 0, .int .u8 x0)]) (fun i _ => R.length - (intOf i).toNat)
      case atStart => exact ⟨0, Nat.zero_le _, rfl, HI.out⟩
      case round =>
        clear HI
        obtain ⟨k, hk, rfl, hI⟩ := hrel
        by_cases hlt : k < R.length
        · obtain ⟨bb, off, e6, hbz, g1, g2⟩ := RowP.at (hI.2.1 (q6, R) (by simp)) hlt (Nat.le_refl _) (Below.refl _ _)
          obtain rfl : q6 = some ⟨bb, off, none⟩ := e6
          have hmem := getD_mem R k (0, 0) hlt
          have hp1 := HPL.out _ hmem
          have hp2 := HYES.out _ hmem
          have hp3 := HNO.out _ hmem
          generalize R.getD k (0, 0) = pp at *
          obtain ⟨p1, p2⟩ := pp
          have HP1 := Lib.hid hp1
          have hJ := ((hI.alloc (.cells #[.int .i64 p1, .int .i64 p2] 26)).addC (b := wr.heap.size) (o := 0) (v := .int .i64 p1) (by simp) (by simp)).addC (b := wr.heap.size) (o := 1) (v := .int .i64 p2) (by simp) (by simp)
          have HI := Lib.hid (hJ.go (Below.refl _ _).drew)
          have f0 := HI.out.c (b := wr.heap.size) (o := 0) (v := .int .i64 p1) (by simp); have f1 := HI.out.c (b := wr.heap.size) (o := 1) (v := .int .i64 p2) (by simp); have f2 := HI.out.c (b := BG) (o := 0) (v := .int .i64 ga) (by simp); have f3 := HI.out.c (b := BG) (o := 1) (v := .int .i64 gb) (by simp); have f4 := HI.out.c (b := BG) (o := 2) (v := .int .i64 gc) (by simp)
          clear hmem hp1 hI hJ
          dsimp only at g1 g2
          cases hb : agr (ga, gb, gc) (p1, p2) with
          | true =>
            rw [hb] at hp2 hp3
            have HP2 := Lib.hid hp2
            have HP3 := Lib.hid hp3
            have HB := Lib.hid hb
            clear hp2 hp3 hb f0 f1 f2 f3 f4
            go_wp2
            have f0 := HI.out.c (b := wr.heap.size) (o := 0) (v := .int .i64 p1) (by simp); have f1 := HI.out.c (b := wr.heap.size) (o := 1) (v := .int .i64 p2) (by simp); have f2 := HI.out.c (b := BG) (o := 0) (v := .int .i64 ga) (by simp); have f3 := HI.out.c (b := BG) (o := 1) (v := .int .i64 gb) (by simp); have f4 := HI.out.c (b := BG) (o := 2) (v := .int .i64 gc) (by simp)
            go_region_held3 (fun WW => WW.cell? ⟨wr.heap.size, 0, none⟩ = some (.int .i64 p1) ∧ WW.cell? ⟨wr.heap.size, 1, none⟩ = some (.int .i64 p2) ∧ WW.cell? ⟨BG, 0, none⟩ = some (.int .i64 ga) ∧ WW.cell? ⟨BG, 1, none⟩ = some (.int .i64 gb) ∧ WW.cell? ⟨BG, 2, none⟩ = some (.int .i64 gc)) (first | exact ⟨f0, f1, f2, f3, f4⟩ | go_keep)
              (first
              | (go_at_call 77; refine (HI.out.scalar (V' := .bool true) (containsPl_any (p1, p2) q4 c4 RY _ (HI.out.2.1 (q4, RY) (by simp)) (by omega)) (by rw [HP2.out])).mono ?_; rintro e W ⟨rfl, hI⟩; clear f0 f1 f2 f3 f4; replace HI := Lib.hid hI; clear hI; have f0 := HI.out.c (b := wr.heap.size) (o := 0) (v := .int .i64 p1) (by simp); have f1 := HI.out.c (b := wr.heap.size) (o := 1) (v := .int .i64 p2) (by simp); have f2 := HI.out.c (b := BG) (o := 0) (v := .int .i64 ga) (by simp); have f3 := HI.out.c (b := BG) (o := 1) (v := .int .i64 gb) (by simp); have f4 := HI.out.c (b := BG) (o := 2) (v := .int .i64 gc) (by simp))
              | (go_at_call 77; refine (HI.out.scalar (V' := .bool false) (containsPl_any (p1, p2) q5 c5 RN _ (HI.out.2.1 (q5, RN) (by simp)) (by omega)) (by rw [HP3.out]; rfl)).mono ?_; rintro e W ⟨rfl, hI⟩; clear f0 f1 f2 f3 f4; replace HI := Lib.hid hI; clear hI; have f0 := HI.out.c (b := wr.heap.size) (o := 0) (v := .int .i64 p1) (by simp); have f1 := HI.out.c (b := wr.heap.size) (o := 1) (v := .int .i64 p2) (by simp); have f2 := HI.out.c (b := BG) (o := 0) (v := .int .i64 ga) (by simp); have f3 := HI.out.c (b := BG) (o := 1) (v := .int .i64 gb) (by simp); have f4 := HI.out.c (b := BG) (o := 2) (v := .int .i64 gc) (by simp))
              | (go_at_call 78; refine (HI.out.scalar (V' := .bool true) (fits_any (ga, gb, gc) (p1, p2) _ HP1.out HOG0.out) (by rw [HB.out])).mono ?_; rintro e W ⟨rfl, hI⟩; clear f0 f1 f2 f3 f4; replace HI := Lib.hid hI; clear hI; have f0 := HI.out.c (b := wr.heap.size) (o := 0) (v := .int .i64 p1) (by simp); have f1 := HI.out.c (b := wr.heap.size) (o := 1) (v := .int .i64 p2) (by simp); have f2 := HI.out.c (b := BG) (o := 0) (v := .int .i64 ga) (by simp); have f3 := HI.out.c (b := BG) (o := 1) (v := .int .i64 gb) (by simp); have f4 := HI.out.c (b := BG) (o := 2) (v := .int .i64 gc) (by simp))
              | fail)
            all_goals
              clear f0 f1 f2 f3 f4
              go_wp2
              go_roundw
              case rel => exact ⟨k + 1, hlt, by go_num, HI.out.lessC.lessC⟩
              case measure => simp [intOf]; omega
          | false =>
            rw [hb] at hp2 hp3
            have HP2 := Lib.hid hp2
            have HP3 := Lib.hid hp3
            have HB := Lib.hid hb
            clear hp2 hp3 hb f0 f1 f2 f3 f4
            go_wp2
            have f0 := HI.out.c (b := wr.heap.size) (o := 0) (v := .int .i64 p1) (by simp); have f1 := HI.out.c (b := wr.heap.size) (o := 1) (v := .int .i64 p2) (by simp); have f2 := HI.out.c (b := BG) (o := 0) (v := .int .i64 ga) (by simp); have f3 := HI.out.c (b := BG) (o := 1) (v := .int .i64 gb) (by simp); have f4 := HI.out.c (b := BG) (o := 2) (v := .int .i64 gc) (by simp)
            go_region_held3 (fun WW => WW.cell? ⟨wr.heap.size, 0, none⟩ = some (.int .i64 p1) ∧ WW.cell? ⟨wr.heap.size, 1, none⟩ = some (.int .i64 p2) ∧ WW.cell? ⟨BG, 0, none⟩ = some (.int .i64 ga) ∧ WW.cell? ⟨BG, 1, none⟩ = some (.int .i64 gb) ∧ WW.cell? ⟨BG, 2, none⟩ = some (.int .i64 gc)) (first | exact ⟨f0, f1, f2, f3, f4⟩ | go_keep)
              (first
              | (go_at_call 77; refine (HI.out.scalar (V' := .bool false) (containsPl_any (p1, p2) q4 c4 RY _ (HI.out.2.1 (q4, RY) (by simp)) (by omega)) (by rw [HP2.out])).mono ?_; rintro e W ⟨rfl, hI⟩; clear f0 f1 f2 f3 f4; replace HI := Lib.hid hI; clear hI; have f0 := HI.out.c (b := wr.heap.size) (o := 0) (v := .int .i64 p1) (by simp); have f1 := HI.out.c (b := wr.heap.size) (o := 1) (v := .int .i64 p2) (by simp); have f2 := HI.out.c (b := BG) (o := 0) (v := .int .i64 ga) (by simp); have f3 := HI.out.c (b := BG) (o := 1) (v := .int .i64 gb) (by simp); have f4 := HI.out.c (b := BG) (o := 2) (v := .int .i64 gc) (by simp))
              | (go_at_call 77; refine (HI.out.scalar (V' := .bool true) (containsPl_any (p1, p2) q5 c5 RN _ (HI.out.2.1 (q5, RN) (by simp)) (by omega)) (by rw [HP3.out]; rfl)).mono ?_; rintro e W ⟨rfl, hI⟩; clear f0 f1 f2 f3 f4; replace HI := Lib.hid hI; clear hI; have f0 := HI.out.c (b := wr.heap.size) (o := 0) (v := .int .i64 p1) (by simp); have f1 := HI.out.c (b := wr.heap.size) (o := 1) (v := .int .i64 p2) (by simp); have f2 := HI.out.c (b := BG) (o := 0) (v := .int .i64 ga) (by simp); have f3 := HI.out.c (b := BG) (o := 1) (v := .int .i64 gb) (by simp); have f4 := HI.out.c (b := BG) (o := 2) (v := .int .i64 gc) (by simp))
              | (go_at_call 78; refine (HI.out.scalar (V' := .bool false) (fits_any (ga, gb, gc) (p1, p2) _ HP1.out HOG0.out) (by rw [HB.out])).mono ?_; rintro e W ⟨rfl, hI⟩; clear f0 f1 f2 f3 f4; replace HI := Lib.hid hI; clear hI; have f0 := HI.out.c (b := wr.heap.size) (o := 0) (v := .int .i64 p1) (by simp); have f1 := HI.out.c (b := wr.heap.size) (o := 1) (v := .int .i64 p2) (by simp); have f2 := HI.out.c (b := BG) (o := 0) (v := .int .i64 ga) (by simp); have f3 := HI.out.c (b := BG) (o := 1) (v := .int .i64 gb) (by simp); have f4 := HI.out.c (b := BG) (o := 2) (v := .int .i64 gc) (by simp))
              | fail)
            all_goals
              clear f0 f1 f2 f3 f4
              go_wp2
              go_roundw
              case rel => exact ⟨k + 1, hlt, by go_num, HI.out.lessC.lessC⟩
              case measure => simp [intOf]; omega
        · obtain rfl : k = R.length := by omega
          have HI := Lib.hid hI
          clear hI
          have hsr := HSUM.out
          have k0 := HI.out.c (b := B) (o := 0) (v := .int .i64 n) (by simp); have k1 := HI.out.c (b := B) (o := 1) (v := .slice q gs.length c) (by simp); have k6 := HI.out.c (b := BG) (o := 0) (v := .int .i64 ga) (by simp); have k7 := HI.out.c (b := BG) (o := 1) (v := .int .i64 gb) (by simp); have k8 := HI.out.c (b := BG) (o := 2) (v := .int .i64 gc) (by simp)
          go_upto_region 21 with (go_at_call 30; refine (HI.out.scalar (V' := .tuple #[.int .i64 (RN.length : Nat), .int .i64 0]) (Loss_any n q c gs (ga, gb, gc) _ (HI.out.1 (q, c, gs) (by simp)).1 (HI.out.1 (q, c, gs) (by simp)).2) (by rw [HLS1.out])).mono ?_; rintro e W ⟨rfl, hI⟩; clear k0 k1 k6 k7 k8; replace HI := Lib.hid hI; clear hI; have k0 := HI.out.c (b := B) (o := 0) (v := .int .i64 n) (by simp); have k1 := HI.out.c (b := B) (o := 1) (v := .slice q gs.length c) (by simp); have k9 := HI.out.c (b := BO) (o := 0) (v := .int .i64 na) (by simp); have k10 := HI.out.c (b := BO) (o := 1) (v := .int .i64 nb) (by simp); have k11 := HI.out.c (b := BO) (o := 2) (v := .int .i64 nc) (by simp))
          go_upto_region 22 with (go_at_call 30; refine (HI.out.scalar (V' := .tuple #[.int .i64 (RY.length : Nat), .int .i64 0]) (Loss_any n q c gs (na, nb, nc) _ (HI.out.1 (q, c, gs) (by simp)).1 (HI.out.1 (q, c, gs) (by simp)).2) (by rw [HLS2.out])).mono ?_; rintro e W ⟨rfl, hI⟩; clear k0 k1 k9 k10 k11; replace HI := Lib.hid hI; clear hI; have k0 := HI.out.c (b := B) (o := 0) (v := .int .i64 n) (by simp); have k1 := HI.out.c (b := B) (o := 1) (v := .slice q gs.length c) (by simp); have k6 := HI.out.c (b := BG) (o := 0) (v := .int .i64 ga) (by simp); have k7 := HI.out.c (b := BG) (o := 1) (v := .int .i64 gb) (by simp); have k8 := HI.out.c (b := BG) (o := 2) (v := .int .i64 gc) (by simp))
          by_cases hz : R.length = 0
          · have ek := HKN.out
            rw [if_pos hz] at ek
            have EK := Lib.hid ek
            have t1 : ((R.length : Int) == 0) = true := by simp [hz]
            clear ek hz hsr
            go_wp2_with (first
              | (go_at_call 28; refine (HI.out.scalar (V' := .tuple #[.int .i64 (0), .int .i64 12]) (Known_any n q c gs (ga, gb, gc) _ (HI.out.1 (q, c, gs) (by simp)).1 (HI.out.1 (q, c, gs) (by simp)).2) (by rw [EK.out])).mono ?_; rintro e W ⟨rfl, hI⟩; clear k0 k1 k6 k7 k8; replace HI := Lib.hid hI; clear hI)
              | (go_at_call 19; refine (HI.out.scalar (V' := .bool true) (works_any _) rfl).mono ?_; rintro e W ⟨rfl, hI⟩; replace HI := Lib.hid hI; clear hI)
              | fail)
            go_ret
            exact ⟨rfl, HI.out.2.2.2.2⟩
          · have ek := HKN.out
            rw [if_neg hz] at ek
            have t1 : ((R.length : Int) == 0) = false := beq_eq_false_iff_ne.2 (by omega)
            clear hz
            by_cases hy : RN.length = 0
            · rw [if_pos hy] at ek
              have EK := Lib.hid ek
              have t2 : ((RN.length : Int) == 0) = true := by simp [hy]
              clear ek hy hsr
              go_wp2_with (first
                | (go_at_call 28; refine (HI.out.scalar (V' := .tuple #[.int .i64 (1), .int .i64 0]) (Known_any n q c gs (ga, gb, gc) _ (HI.out.1 (q, c, gs) (by simp)).1 (HI.out.1 (q, c, gs) (by simp)).2) (by rw [EK.out])).mono ?_; rintro e W ⟨rfl, hI⟩; clear k0 k1 k6 k7 k8; replace HI := Lib.hid hI; clear hI)
                | (go_at_call 19; refine (HI.out.scalar (V' := .bool true) (works_any _) rfl).mono ?_; rintro e W ⟨rfl, hI⟩; replace HI := Lib.hid hI; clear hI)
                | fail)
              go_ret
              exact ⟨rfl, HI.out.2.2.2.2⟩
            · rw [if_neg hy] at ek
              have t2 : ((RN.length : Int) == 0) = false := beq_eq_false_iff_ne.2 (by omega)
              clear hy
              by_cases hx : RY.length = 0
              · rw [if_pos hx] at ek
                have EK := Lib.hid ek
                have t3 : ((RY.length : Int) == 0) = true := by simp [hx]
                clear ek hx hsr
                go_wp2_with (first
                  | (go_at_call 28; refine (HI.out.scalar (V' := .tuple #[.int .i64 (-1), .int .i64 0]) (Known_any n q c gs (ga, gb, gc) _ (HI.out.1 (q, c, gs) (by simp)).1 (HI.out.1 (q, c, gs) (by simp)).2) (by rw [EK.out])).mono ?_; rintro e W ⟨rfl, hI⟩; clear k0 k1 k6 k7 k8; replace HI := Lib.hid hI; clear hI)
                  | (go_at_call 19; refine (HI.out.scalar (V' := .bool true) (works_any _) rfl).mono ?_; rintro e W ⟨rfl, hI⟩; replace HI := Lib.hid hI; clear hI)
                  | fail)
                go_ret
                exact ⟨rfl, HI.out.2.2.2.2⟩
              · rw [if_neg hx] at ek
                have EK := Lib.hid ek
                have t3 : ((RY.length : Int) == 0) = false := beq_eq_false_iff_ne.2 (by omega)
                clear ek hx hsr
                go_wp2_with (first
                  | (go_at_call 28; refine (HI.out.scalar (V' := .tuple #[.int .i64 (0), .int .i64 0]) (Known_any n q c gs (ga, gb, gc) _ (HI.out.1 (q, c, gs) (by simp)).1 (HI.out.1 (q, c, gs) (by simp)).2) (by rw [EK.out])).mono ?_; rintro e W ⟨rfl, hI⟩; clear k0 k1 k6 k7 k8; replace HI := Lib.hid hI; clear hI)
                  | (go_at_call 19; refine (HI.out.scalar (V' := .bool true) (works_any _) rfl).mono ?_; rintro e W ⟨rfl, hI⟩; replace HI := Lib.hid hI; clear hI)
                  | fail)
                go_ret
                exact ⟨rfl, HI.out.2.2.2.2⟩
end Go.Proofs.Ytcalipoknbbaaaa
namespace Go.Proofs.Ytcalipoknbbaaaa.seamMore
open Go Go.ChangeShapes Go.WideShapes Go.ChangeAt Go.RowKit

theorem own : ownKnob Try.prog.godebug = none := by kernel_rfl

set_option maxRecDepth 100000 in
theorem lifted (os : Os) (started : os.Started) (H : Type) (enc : TypeId × Value → H) :
    ReturnsInHanded {} Try.checked os 10 .any (Rows.seamMoreSpec.pre6 enc Try.prog Try.f10 Rows.seamMoreRow.domain false) (Rows.seamMoreSpec.post enc Try.prog Try.f10 false true false false) := by
  refine returnsInHanded_of_change (C := Try.checked) own started (by kernel_rfl) Try.func10
    (ChangeSpec.witness6 (enc := enc) (C := Try.checked) false { blocks := #[], args := #[.agg (digCells 0 0 (List.replicate 10 (0, 0, 0, 0))), .agg #[.int .u8 0, .int .u8 0, .int .u8 0, .int .u8 0]], vars := [] } 8 (by kernel_rfl) (by kernel_rfl) (by kernel_rfl) (by kernel_rfl)) ?_
  intro W base args ds gs before hval0 hW hcnd _
  have hval : ∀ (j : Nat) t v, Try.f10.params[j]? = some t → args[j]? = some v → Value.okWide Try.prog W .any base t v := hval0
  have hW' := hW
  obtain ⟨p, q, hA0, hV, rfl, hfz, hnd⟩ := hW
  have hA : DataW.TrodAll enc Try.prog W 0 (fun _ => true) true Try.f10.params.toList args.toList ds p := hA0
  rw [Try.params10] at hA hval
  obtain ⟨v0, v1, d0, d1, p0, p1, rfl, rfl, rfl, h0, h1⟩ := trodAll_two hA
  obtain ⟨rfl, rfl⟩ := trodVars_none hV
  obtain ⟨rfl, g0⟩ := trod_same 5 plain90 h0
  obtain ⟨rfl, g1⟩ := trod_same 5 plain87 h1
  obtain ⟨s0, m0, ls0, rfl, k0a, k0b, k0c, k0d⟩ := dig_of (hval 0 90 v0 rfl rfl)
  obtain ⟨x1, rfl, k1⟩ := by_of (hval 1 87 v1 rfl rfl)
  clear hA0 hval0
  simp only [List.append_nil] at hW'
  refine (SeamMore_any s0 m0 ls0 k0a k0b k0c k0d x1 k1 W).mono fun e W' ⟨he, hg⟩ => ?_
  subst he
  refine ⟨_, rfl, _, _, _, [] ++ [], [] ++ [], [], hW', ?_, ?_, ?_, hg.frame _, fun h => by cases h⟩
  · exact trodAll_cons_mk (shut_bool Try.underlying4 _) trodAll_mk0
  · exact trodAll_cons_mk (g0 _ _ _ _) (trodAll_cons_mk (g1 _ _ _ _) trodAll_mk0)
  · rfl

end Go.Proofs.Ytcalipoknbbaaaa.seamMore
