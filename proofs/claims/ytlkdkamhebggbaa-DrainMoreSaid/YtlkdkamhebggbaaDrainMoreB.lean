/- DrainMore: the law's body. -/
import Derived.Test.YtlkdkamhebggbaaDrnMd
import Derived.Test.YtlkdkamhebggbaaQa4
import Derived.Test.YtlkdkamhebggbaaQa5
import Derived.Test.YtlkdkamhebggbaaKw
import Derived.Deep.CutRange
import Derived.Deep.CutBlock
import Derived.BigRegion
namespace Go.Proofs.Ytlkdkamhebggbaa.drn
open Go.RowKit
set_option linter.unusedSimpArgs false
set_option linter.unusedVariables false
open Go.Proofs.Ytlkdkamhebggbaa.ev (works_any)
theorem sizeAdit : (Try.prog.info? 25).map (·.size) = some 22 := by kernel_rfl
theorem wpList_loadA {ops : Array Oper} {rest : List Oper} {op : Oper} {a : Act} {w : World} {Q : Exit → Act → World → Prop} (xs : List Int) (hxl : xs.length = 22) (B : Nat) (hb : BoxAt w B xs) (x : Operand) (hgd : op.guard = none) (ho : op.op = .load 25 x)
    (hx : a.eval x = .pointer (some ⟨B, 0, none⟩)) (h : wpList Try.prog ops Q rest (a.put op.dst (.agg (flat8 xs).toArray)) w) : wpList Try.prog ops Q (op :: rest) a w :=
  wpList_load_mid hgd 25 x ho B 0 hx (flat8 xs) _ hb.2 Try.underlying25 rfl (by rw [flat8_length, hxl]; exact sizeAdit) h

/-- a copy of channels in new memory, whose cells may be stored to -/
def CopyT (wc W' : World) (cs : List Ch) (k : Nat) (e : Ending) (w' : World) : Prop :=
  ∃ g c, e = .returned (.slice (some ⟨g, 0, none⟩) k c) ∧ RowV w' (some ⟨g, 0, none⟩) (flatT cs) ∧ W'.heap.size ≤ g ∧ k ≤ c ∧ (∀ i, w'.frozen? ⟨g, i, none⟩ = false) ∧ Below wc.heap.size wc w' ∧ Below W'.heap.size W' w'
theorem copyT_of {wc W' : World} {cs : List Ch} {k : Nat} (hk : k ≠ 0) (hb : Below wc.heap.size wc W') {e : Ending} {w' : World} (h : RetV W' 31 3 k (flatT cs) e w') : CopyT wc W' cs k e w' := by
  obtain ⟨v, rfl, hown, hb2⟩ := h
  have hcap := own_cap3 hown
  obtain ⟨q, c, rfl, hrow, hqn, hqb⟩ := rowV_of_owns hown (fun h => absurd h hk)
  obtain ⟨_, ⟨_, h0⟩ | ⟨g, cap, cur, e, hg, hh, _⟩⟩ := hown
  · exact absurd h0 hk
  · injection e with e1 e2 e3
    subst e1
    subst e3
    exact ⟨g, _, rfl, hrow, hg, hcap _ _ rfl, fun i => by simp [World.frozen?, hh], hb.on hb2, hb2⟩
theorem rowV_lt {w : World} {b off : Nat} {vs : List Value} (h : RowV w (some ⟨b, off, none⟩) vs) (hn : 0 < vs.length) : b < w.heap.size := by
  obtain ⟨b', off', e, hz, _⟩ := h.here hn
  simp only [Option.some.injEq, Addr.mk.injEq] at e
  obtain ⟨rfl, _, _⟩ := e
  exact hz
/-- where the law stands once it has the dearer hill's place -/
structure Dear (w W : World) (n k g c B : Nat) (cs : List Ch) : Prop where
  var : Cell2 W B (.int .i64 n) (.slice (some ⟨g, 0, none⟩) k c)
  row : RowV W (some ⟨g, 0, none⟩) (flatT cs)
  fz : ∀ i, W.frozen? ⟨g, i, none⟩ = false
  ne : g ≠ B
  lo : w.heap.size ≤ g
  bel : Below w.heap.size w W
set_option maxRecDepth 100000 in
set_option maxHeartbeats 8000000 in
theorem DrainMore_any (xs : List Int) (one : Int) (hxl : xs.length = 22) (hxo : ∀ x ∈ xs, 0 ≤ x ∧ x ≤ 255) (h1 : 0 ≤ one ∧ one ≤ 255) (w : World) :
    Calls Try.prog 4 #[.agg (flat8 xs).toArray, .int .u8 one] w fun e w' => e = .returned (.bool true) ∧ Below w.heap.size w w' := by
  have hx0 := hxo _ (getD_mem xs 0 0 (by omega))
  obtain ⟨n, hn⟩ : ∃ n : Nat, (n : Int) = 1 + xs.getD 0 0 % ((6 : Nat) : Int) := ⟨(1 + xs.getD 0 0 % 6).toNat, by omega⟩
  have n1 : 1 ≤ n := by omega
  have n6 : n ≤ 6 := by omega
  have hE := made_err (m := 14) hxo n1 n6 (Nat.le_refl _)
  have CM := Lib.hid (fun W => made_any xs 6 14 n W hxl hxo (by omega) (by omega) (Nat.le_refl _) hn)
  generalize madeS xs n 14 = cs at *
  have HE := Lib.hid hE
  have hW0 := BoxAt.new w xs 25
  have hB0 : Below w.heap.size w (w.alloc (.cells (flat8 xs).toArray 25)) := (Below.refl _ _).alloc (Nat.le_refl _) _
  have HXL := Lib.hid hxl
  have HB0 := Lib.hid hB0
  have HX0 := Lib.hid hW0
  clear hE hxo hxl hx0 hn hW0 hB0
  go_enter Try.func4, Try.ntmps4
  go_upto_region 1 with fail
  generalize (w.alloc (.cells (flat8 xs).toArray 25)) = W0 at *
  go_upto_region 2 with (first
    | (refine wpList_loadA xs HXL.out _ HX0.out (.tmp 2) rfl rfl rfl ?_)
    | (go_at_call 5; refine (CM.out _).mono ?_; rintro e W1 ⟨q, c, rfl, hr, hq, hc, hb⟩; unfold hillV))
  have HBW := Lib.hid (HB0.out.on hb)
  obtain ⟨B5, hB5⟩ : ∃ B5, W1.heap.size = B5 := ⟨_, rfl⟩
  have hv := Cell2.new W1 B5 hB5 (.int .i64 n) (.slice q cs.length c) 28
  have A0 : Below W1.heap.size W1 (W1.alloc (.cells #[.int .i64 n, .slice q cs.length c] 28)) := (Below.refl _ _).alloc (Nat.le_refl _) _
  have HD2 : Hid (Bd w (W1.alloc (.cells #[.int .i64 n, .slice q cs.length c] 28)) fun W => Cell2 W B5 (.int .i64 n) (.slice q cs.length c) ∧ RowV W q (flatT cs)) :=
    Lib.hid ⟨HBW.out.on A0, fun V hV => ⟨hv.below hv.1 hV, (hr.below (Nat.le_refl _) A0).below (Nat.le_refl _) hV⟩⟩
  have HCAP := Lib.hid hc
  clear hr hq hc hb A0 hv
  rw [hB5]
  generalize (W1.alloc (.cells #[.int .i64 n, .slice q cs.length c] 28)) = W2 at *
  obtain ⟨⟨v0, v1, v2, v3, v4⟩, _⟩ := HD2.out.at
  obtain ⟨k, hk⟩ : ∃ k, cs.length = k := ⟨_, rfl⟩
  rw [hk] at v2 HD2
  go_upto_region 3 with fail
  cases k with
  | zero =>
    have hcs : cs = [] := List.length_eq_zero_iff.1 hk
    subst hcs
    have hcn := count_nil HE.out
    have hco := Lib.hid (fun W (h : RowV W q (flatT [])) => Count_any n q c [] W h HCAP.out)
    unfold hillV at hco
    simp only [Int.toNat_natCast, hcn, List.length_nil] at hco
    go_upto_region 5 with (go_at_call 8; refine (hco.out _ HD2.out.at.2).mono ?_; rintro e W3 ⟨rfl, hb3⟩)
    have HB3 := Lib.hid (HD2.out.bel.on hb3)
    clear v0 v1 v2 v3 v4 HD2 hb3
    go_wp2_with (go_at_call 12; refine (works_any _).mono ?_; rintro e W4 ⟨rfl, hb4⟩)
    go_ret
    exact ⟨rfl, HB3.out.on hb4⟩
  | succ k =>
    obtain ⟨b, off, rfl, hz, hc1, hc2, hc3⟩ := rowT_at HD2.out.at.2 (k := 0) (by omega) (Nat.le_refl _) (Below.refl _ _)
    have hcap := HCAP.out
    rw [hk] at hcap
    have h14 := (errD_ch HE.out).2.2.1
    rw [hk] at h14
    have k0 : (((k + 1 : Nat) : Int) == 0) = false := by simp; omega
    obtain ⟨K, hK⟩ : ∃ K : Int, ((k + 1 : Nat) : Int) = K := ⟨_, rfl⟩
    have i1 : IntKind.i64.wrap (K - 1) = (k : Int) := by rw [IntWalk.i64_in _ ⟨by omega, by omega⟩]; omega
    have i2 : (0 : Int) ≤ (k : Int) := by omega
    have i3 : (k : Int) ≤ (c : Int) := by omega
    have i4 : k ≤ c := by omega
    rw [hK] at k0
    rw [hK]
    have HK := Lib.hid hK
    have HKK := Lib.hid hk
    clear hK hk hc1 hc2 hc3
    go_upto_region 6 with fail
    go_region
    obtain ⟨B9, hB9⟩ : ∃ B9, W2.heap.size = B9 := ⟨_, rfl⟩
    have hv9 := Cell2.new W2 B9 hB9 (.int .i64 n) (.slice (some ⟨b, off, none⟩) k c) 28
    have A0 : Below W2.heap.size W2 (W2.alloc (.cells #[.int .i64 n, .slice (some ⟨b, off, none⟩) k c] 28)).drew := ((Below.refl _ _).alloc (Nat.le_refl _) _).drew
    have HD3 : Hid (Bd w (W2.alloc (.cells #[.int .i64 n, .slice (some ⟨b, off, none⟩) k c] 28)).drew fun W => Cell2 W B9 (.int .i64 n) (.slice (some ⟨b, off, none⟩) k c) ∧ Cell2 W B5 (.int .i64 n) (.slice (some ⟨b, off, none⟩) (k + 1) c) ∧ RowV W (some ⟨b, off, none⟩) (flatT cs)) :=
      Lib.hid ((HD2.out.go A0).var hv9)
    rw [hB9]
    generalize (W2.alloc (.cells #[.int .i64 n, .slice (some ⟨b, off, none⟩) k c] 28)).drew = W3 at *
    have hKp : 0 < K := by have := HK.out; omega
    have hp0 := Int.emod_nonneg one (Int.ne_of_gt hKp)
    have hp1 := Int.emod_lt_of_pos one hKp
    obtain ⟨p, hp⟩ : ∃ p : Nat, (p : Int) = one % K := ⟨(one % K).toNat, by omega⟩
    have hpk : p < cs.length := by have := HK.out; have := HKK.out; omega
    obtain ⟨B, C, D, I, L, eL, M, eM, e1, e2, e3, e4, e5, e6, HF⟩ := more_facts HE.out HKK.out hpk
    have HFF := Lib.hid HF
    have hlk : (cs.take k).length = k := by rw [List.length_take, HKK.out]; omega
    have C1 := Lib.hid (fun W (h : RowV W (some ⟨b, off, none⟩) (flatT cs)) => Count_any n (some ⟨b, off, none⟩) c (cs.take k) W (rowT_take h k) (by rw [hlk]; omega))
    have C2 := Lib.hid (fun W (h : RowV W (some ⟨b, off, none⟩) (flatT cs)) => Count_any n (some ⟨b, off, none⟩) c cs W h (by rw [HKK.out]; omega))
    have C3 := Lib.hid (fun W (h : RowV W (some ⟨b, off, none⟩) (flatT cs)) => Most_any n (some ⟨b, off, none⟩) c (cs.take k) W (rowT_take h k) (by rw [hlk]; omega))
    have C4 := Lib.hid (fun W (h : RowV W (some ⟨b, off, none⟩) (flatT cs)) => Most_any n (some ⟨b, off, none⟩) c cs W h (by rw [HKK.out]; omega))
    have C5 := Lib.hid (fun W (h : RowV W (some ⟨b, off, none⟩) (flatT cs)) => Least_any n (some ⟨b, off, none⟩) c (cs.take k) W (rowT_take h k) (by rw [hlk]; omega))
    have C6 := Lib.hid (fun W (h : RowV W (some ⟨b, off, none⟩) (flatT cs)) => Least_any n (some ⟨b, off, none⟩) c cs W h (by rw [HKK.out]; omega))
    simp only [hillV, Int.toNat_natCast, hlk, HKK.out, e1, e2, e3, e4, e5, e6] at C1 C2 C3 C4 C5 C6
    have HP := Lib.hid hp
    have HPK := Lib.hid hpk
    clear e1 e2 e3 e4 e5 e6 HF hlk hp hpk v0 v1 v2 v3 v4 hv9 A0 HD2 hp0 hp1
    obtain ⟨⟨v0, v1, v2, v3, v4⟩, _⟩ := HD3.out.at
    go_upto_region 8 with (go_at_call 8; refine (C1.out _ HD3.out.at.2.2).mono ?_; rintro e W4 ⟨rfl, hb4⟩)
    have HD4 := Lib.hid (HD3.out.go hb4)
    clear hb4 v0 v1 v2 v3 v4 HD3 C1
    obtain ⟨_, ⟨v0, v1, v2, v3, v4⟩, _⟩ := HD4.out.at
    go_upto_region 9 with (go_at_call 8; refine (C2.out _ HD4.out.at.2.2).mono ?_; rintro e W5 ⟨rfl, hb5⟩)
    have HD5 := Lib.hid (HD4.out.go hb5)
    clear hb5 v0 v1 v2 v3 v4 HD4 C2
    obtain ⟨⟨v0, v1, v2, v3, v4⟩, _⟩ := HD5.out.at
    go_upto_region 10 with (go_at_call 9; refine (C3.out _ HD5.out.at.2.2).mono ?_; rintro e W6 ⟨rfl, hb6⟩)
    have HD6 := Lib.hid (HD5.out.go hb6)
    clear hb6 v0 v1 v2 v3 v4 HD5 C3
    obtain ⟨_, ⟨v0, v1, v2, v3, v4⟩, _⟩ := HD6.out.at
    go_upto_region 11 with (go_at_call 9; refine (C4.out _ HD6.out.at.2.2).mono ?_; rintro e W7 ⟨rfl, hb7⟩)
    have HD7 := Lib.hid (HD6.out.go hb7)
    clear hb7 v0 v1 v2 v3 v4 HD6 C4
    obtain ⟨⟨v0, v1, v2, v3, v4⟩, _⟩ := HD7.out.at
    have f1 : ¬ C < B := by have := HFF.out.bc; omega
    have f2 : ¬ I < D := by have := HFF.out.di; omega
    go_upto_region 14 with (go_at_call 7; refine (C5.out _ HD7.out.at.2.2).mono ?_; rintro e W8 ⟨rfl, hb8⟩)
    have HD8 := Lib.hid (HD7.out.go hb8)
    clear hb8 v0 v1 v2 v3 v4 HD7 C5 f1 f2
    obtain ⟨_, ⟨v0, v1, v2, v3, v4⟩, _⟩ := HD8.out.at
    have hcase : ((eL == 0) = true ∧ eM = 0 ∧ ¬ L < M) ∨ (eL == 0) = false := by
      by_cases h : eL = 0
      · have := HFF.out.el h
        exact .inl ⟨by simp [h], this.1, by omega⟩
      · exact .inr (by simp [h])
    have z1 : (K == 0) = false := by simp; omega
    have z2 : ¬ K = 0 := by omega
    have i5 : one % K = (p : Int) := HP.out.symm
    go_upto_region 15 with (go_at_call 7; refine (C6.out _ HD8.out.at.2.2).mono ?_; rintro e W9 ⟨rfl, hb9⟩)
    have HD9 := Lib.hid (HD8.out.go hb9)
    clear hb9 v0 v1 v2 v3 v4 HD8 C6
    obtain ⟨_, ⟨v0, v1, v2, v3, v4⟩, _⟩ := HD9.out.at
    go_cut [116] from 106 to 115 (fun v wx => v = .bool false ∧ wx = W9)
    case first =>
      rcases hcase with ⟨g1, g2, g3⟩ | g1
      · go_wp2
        go_meet
        case rel => exact ⟨by simp [g2, g3], rfl⟩
      · go_wp2
        go_meet
        case rel => exact ⟨rfl, rfl⟩
    case rest =>
    obtain ⟨rfl, rfl⟩ := hcut
    clear hcase
    have HP1 := Lib.hid h1
    have o1 : IntKind.i64.wrap one = one := IntWalk.i64_in _ ⟨by omega, by omega⟩
    obtain ⟨bb, oo, hq2, hz2, g1, g2, g3⟩ := rowT_at HD9.out.at.2.2 (k := p) HPK.out (Nat.le_refl _) (Below.refl _ _)
    simp only [Option.some.injEq, Addr.mk.injEq] at hq2
    obtain ⟨rfl, rfl, _⟩ := hq2
    have i6 : (p : Int) < ((k + 1 : Nat) : Int) := by have := HPK.out; have := HKK.out; omega
    have i7 : (0 : Int) ≤ (p : Int) := by omega
    obtain ⟨X, hX⟩ : ∃ X, (cs.getD p (0, 0, 0)).2.2 = X := ⟨_, rfl⟩
    rw [hX] at g3
    have HX := Lib.hid hX
    clear hX g1 g2
    go_upto_region 18 with fail
    by_cases hM : eM = 0
    · have hC : 0 < C := by have := HFF.out.em; omega
      by_cases h20 : X = 20
      · have f1 : (eM != 0) = false := by simp [hM]
        have f2 : (eM == 0) = true := by simp [hM]
        go_wp2_with (go_at_call 12; refine (works_any _).mono ?_; rintro e W4 ⟨rfl, hb4⟩)
        go_ret
        exact ⟨rfl, HD9.out.bel.on hb4⟩
      · have f1 : (eM != 0) = false := by simp [hM]
        have f3 : (X == 20) = false := by simp [h20]
        go_upto_region 20 with fail
        have hcl : ∀ W', Below wc.heap.size wc W' → Calls Try.prog 13 #[.slice (some ⟨b, off, none⟩) (k + 1) c] W' (CopyT wc W' cs (k + 1)) := fun W' hb => by
          have := cloneT_any ⟨b, off, none⟩ c cs W' (HD9.out.at.2.2.below (Nat.le_refl _) hb) (by rw [HKK.out]; omega)
          rw [HKK.out] at this
          exact this.mono fun e w' h => copyT_of (by omega) hb h
        have HCL := Lib.hid hcl
        clear hcl g3
        go_region_held3 (fun W => W.cell? ⟨B5, 0, none⟩ = some (.int .i64 n) ∧ W.cell? ⟨B5, 1, none⟩ = some (.slice (some ⟨b, off, none⟩) (k + 1) c)) (first | exact ⟨v1, v2⟩ | exact ⟨d1, d2⟩ | exact ⟨far2 d1 v0, far2 d2 v0⟩ | go_keep)
          (first
            | (go_at_call 13; (with_reducible refine (HCL.out _ ((Below.refl _ _).drew)).mono ?_); rintro e W10 ⟨g10, c10, rfl, hrow, hg10, hc10, hfz, hb10, hbx⟩; have d1 := (hb10.cell (p := ⟨B5, 0, none⟩) v0).trans v1; have d2 := (hb10.cell (p := ⟨B5, 1, none⟩) v0).trans v2; have HROW := Lib.hid hrow; have HFZ := Lib.hid hfz; have HBN := Lib.hid hb10; have hg11 : wc.heap.size ≤ g10 := hg10; clear hrow hfz hb10 hbx)
            | (go_at_call 13; (with_reducible refine (HCL.out _ (((Below.refl _ _).alloc (Nat.le_refl _) _).drew)).mono ?_); rintro e W10 ⟨g10, c10, rfl, hrow, hg10, hc10, hfz, hb10, hbx⟩; have d1 := (hb10.cell (p := ⟨B5, 0, none⟩) v0).trans v1; have d2 := (hb10.cell (p := ⟨B5, 1, none⟩) v0).trans v2; have HROW := Lib.hid hrow; have HFZ := Lib.hid hfz; have HBN := Lib.hid hb10; obtain ⟨n0, n1, n2, n3, n4⟩ := ((Cell2.new wc wc.heap.size rfl (.int .i64 0) (.slice none 0 0) 28).below (N := wc.heap.size + 1) (by omega) ((Below.refl _ _).drew)).below (by simp) hbx; have hg11 : wc.heap.size + 1 ≤ g10 := (by simpa using hg10); have HN := Lib.hid (show Cell2 W10 wc.heap.size (.int .i64 0) (.slice none 0 0) from ⟨n0, n1, n2, n3, n4⟩); clear hrow hfz hb10 hbx)
            | fail)
        · have hsw := HD9.out.bel.size
          have hs10 := HBN.out.size
          have hgl := rowV_lt HROW.out (by rw [flatT_length, HKK.out]; omega)
          have A1 : Below W10.heap.size W10 (W10.alloc (.cells #[.int .i64 n, .slice (some ⟨g10, 0, none⟩) (k + 1) c10] 28)) := (Below.refl _ _).alloc (Nat.le_refl _) _
          have HS : Hid (Dear w (W10.alloc (.cells #[.int .i64 n, .slice (some ⟨g10, 0, none⟩) (k + 1) c10] 28)) n (k + 1) g10 c10 W10.heap.size cs) :=
            Lib.hid ⟨Cell2.new _ _ rfl _ _ _, HROW.out.below (Nat.le_refl _) A1, fun i => (A1.frozen (p := ⟨g10, i, none⟩) hgl).trans (HFZ.out i), by omega, by omega, (HD9.out.bel.on HBN.out).on A1⟩
          have HC10 := Lib.hid hc10
          clear HCL HBN HROW HFZ hg10 hg11 d1 d2 v0 v1 v2 v3 v4 hsw hc10 hs10 hgl A1
          generalize (W10.alloc (.cells #[.int .i64 n, .slice (some ⟨g10, 0, none⟩) (k + 1) c10] 28)) = WD at *
          clear HD9
          generalize W10.heap.size = B21 at *
          obtain ⟨y0, y1, y2, y3, y4⟩ := HS.out.var
          obtain ⟨bb, oo, hq3, hz3, _, _, g4⟩ := rowT_at HS.out.row (k := p) HPK.out (Nat.le_refl _) (Below.refl _ _)
          simp only [Option.some.injEq, Addr.mk.injEq] at hq3
          obtain ⟨rfl, rfl, _⟩ := hq3
          rw [HX.out, Nat.zero_add] at g4
          have hcp : ChOk n (cs.getD p (0, 0, 0)) := (errD_ch HE.out).2.2.2 _ (getD_inl cs p _ HPK.out)
          have hx0 : 0 ≤ X := by rw [← HX.out]; exact hcp.2.2.2.1
          have hx20 : X ≤ 20 := by rw [← HX.out]; exact hcp.2.2.2.2
          have j1 : IntKind.i64.wrap (X + 1) = X + 1 := IntWalk.i64_in _ ⟨by omega, by omega⟩
          have hfz := HS.out.fz (p * 3 + 2)
          clear hcp
          go_upto_region 21 with fail
          go_region
          have hr22 := rowV_set HS.out.row (i := p * 3 + 2) (by rw [flatT_length]; have := HPK.out; omega) (.int .i64 (X + 1))
          rw [flatT_set cs p (X + 1) HPK.out, ← HX.out, Nat.zero_add] at hr22
          have A3 : Below (WD.setCell ⟨g10, p * 3 + 2, none⟩ (.int .i64 (X + 1))).heap.size (WD.setCell ⟨g10, p * 3 + 2, none⟩ (.int .i64 (X + 1))) (WD.setCell ⟨g10, p * 3 + 2, none⟩ (.int .i64 (X + 1))).drew := (Below.refl _ _).drew
          have HDF : Hid (Bd w (WD.setCell ⟨g10, p * 3 + 2, none⟩ (.int .i64 (X + 1))).drew fun W => Cell2 W B21 (.int .i64 n) (.slice (some ⟨g10, 0, none⟩) (k + 1) c10) ∧ RowV W (some ⟨g10, 0, none⟩) (flatT (dear cs p))) := by
            have hv := HS.out.var.far HS.out.ne (i := p * 3 + 2) (.int .i64 (X + 1))
            refine Lib.hid ⟨(HS.out.bel.setCell (p := ⟨g10, p * 3 + 2, none⟩) HS.out.lo _).on A3, fun V hV => ⟨hv.below hv.1 (A3.on hV), ?_⟩⟩
            have h5 : RowV (WD.setCell ⟨g10, p * 3 + 2, none⟩ (.int .i64 (X + 1))) (some ⟨g10, 0, none⟩) (flatT (dear cs p)) := by
              unfold dear
              rw [← HX.out]
              exact hr22
            exact h5.below (Nat.le_refl _) (A3.on hV)
          clear y0 y1 y2 y3 y4 g4 hfz hr22 A3
          generalize (WD.setCell ⟨g10, p * 3 + 2, none⟩ (.int .i64 (X + 1))).drew = W22 at *
          obtain ⟨Q, eQ, r1, r2⟩ := HFF.out.dear hM (by rw [HX.out]; exact h20)
          have CL := Least_any n (some ⟨g10, 0, none⟩) c10 (dear cs p) W22 HDF.out.at.2 (by rw [dear_length, HKK.out]; exact HC10.out)
          simp only [hillV, Int.toNat_natCast, dear_length, HKK.out, eQ] at CL
          have HCLL := Lib.hid CL
          have hmb := HFF.out.mb
          have j2 : IntKind.i64.wrap (M + 1) = M + 1 := IntWalk.i64_in _ ⟨by omega, by omega⟩
          clear CL eQ
          obtain ⟨⟨y0, y1, y2, y3, y4⟩, _⟩ := HDF.out.at
          go_upto_region 23 with (go_at_call 7; refine HCLL.out.mono ?_; rintro e W23 ⟨rfl, hb23⟩)
          have HBL := Lib.hid (HDF.out.bel.on hb23)
          clear y0 y1 y2 y3 y4 hb23 HDF HCLL HS
          go_wp2_with (go_at_call 12; refine (works_any _).mono ?_; rintro e W24 ⟨rfl, hb24⟩)
          go_ret
          exact ⟨rfl, HBL.out.on hb24⟩
        · have hsw := HD9.out.bel.size
          have HS : Hid (Dear w ((W10.setCell ⟨wc.heap.size, 0, none⟩ (.int .i64 n)).setCell ⟨wc.heap.size, 1, none⟩ (.slice (some ⟨g10, 0, none⟩) (k + 1) c10)) n (k + 1) g10 c10 wc.heap.size cs) :=
            Lib.hid ⟨HN.out.set _ _, rowV_far (rowV_far HROW.out (by omega) _) (by omega) _, fun i => by simpa using HFZ.out i, by omega, by omega, ((HD9.out.bel.on HBN.out).setCell (p := ⟨wc.heap.size, 0, none⟩) hsw _).setCell (p := ⟨wc.heap.size, 1, none⟩) hsw _⟩
          have HC10 := Lib.hid hc10
          clear HCL HBN HN HROW HFZ hg10 hg11 d1 d2 n0 n1 n2 n3 n4 v0 v1 v2 v3 v4 hsw hc10
          generalize ((W10.setCell ⟨wc.heap.size, 0, none⟩ (.int .i64 n)).setCell ⟨wc.heap.size, 1, none⟩ (.slice (some ⟨g10, 0, none⟩) (k + 1) c10)) = WD at *
          clear HD9
          generalize wc.heap.size = B21 at *
          obtain ⟨y0, y1, y2, y3, y4⟩ := HS.out.var
          obtain ⟨bb, oo, hq3, hz3, _, _, g4⟩ := rowT_at HS.out.row (k := p) HPK.out (Nat.le_refl _) (Below.refl _ _)
          simp only [Option.some.injEq, Addr.mk.injEq] at hq3
          obtain ⟨rfl, rfl, _⟩ := hq3
          rw [HX.out, Nat.zero_add] at g4
          have hcp : ChOk n (cs.getD p (0, 0, 0)) := (errD_ch HE.out).2.2.2 _ (getD_inl cs p _ HPK.out)
          have hx0 : 0 ≤ X := by rw [← HX.out]; exact hcp.2.2.2.1
          have hx20 : X ≤ 20 := by rw [← HX.out]; exact hcp.2.2.2.2
          have j1 : IntKind.i64.wrap (X + 1) = X + 1 := IntWalk.i64_in _ ⟨by omega, by omega⟩
          have hfz := HS.out.fz (p * 3 + 2)
          clear hcp
          go_upto_region 21 with fail
          go_region
          have hr22 := rowV_set HS.out.row (i := p * 3 + 2) (by rw [flatT_length]; have := HPK.out; omega) (.int .i64 (X + 1))
          rw [flatT_set cs p (X + 1) HPK.out, ← HX.out, Nat.zero_add] at hr22
          have A3 : Below (WD.setCell ⟨g10, p * 3 + 2, none⟩ (.int .i64 (X + 1))).heap.size (WD.setCell ⟨g10, p * 3 + 2, none⟩ (.int .i64 (X + 1))) (WD.setCell ⟨g10, p * 3 + 2, none⟩ (.int .i64 (X + 1))).drew := (Below.refl _ _).drew
          have HDF : Hid (Bd w (WD.setCell ⟨g10, p * 3 + 2, none⟩ (.int .i64 (X + 1))).drew fun W => Cell2 W B21 (.int .i64 n) (.slice (some ⟨g10, 0, none⟩) (k + 1) c10) ∧ RowV W (some ⟨g10, 0, none⟩) (flatT (dear cs p))) := by
            have hv := HS.out.var.far HS.out.ne (i := p * 3 + 2) (.int .i64 (X + 1))
            refine Lib.hid ⟨(HS.out.bel.setCell (p := ⟨g10, p * 3 + 2, none⟩) HS.out.lo _).on A3, fun V hV => ⟨hv.below hv.1 (A3.on hV), ?_⟩⟩
            have h5 : RowV (WD.setCell ⟨g10, p * 3 + 2, none⟩ (.int .i64 (X + 1))) (some ⟨g10, 0, none⟩) (flatT (dear cs p)) := by
              unfold dear
              rw [← HX.out]
              exact hr22
            exact h5.below (Nat.le_refl _) (A3.on hV)
          clear y0 y1 y2 y3 y4 g4 hfz hr22 A3
          generalize (WD.setCell ⟨g10, p * 3 + 2, none⟩ (.int .i64 (X + 1))).drew = W22 at *
          obtain ⟨Q, eQ, r1, r2⟩ := HFF.out.dear hM (by rw [HX.out]; exact h20)
          have CL := Least_any n (some ⟨g10, 0, none⟩) c10 (dear cs p) W22 HDF.out.at.2 (by rw [dear_length, HKK.out]; exact HC10.out)
          simp only [hillV, Int.toNat_natCast, dear_length, HKK.out, eQ] at CL
          have HCLL := Lib.hid CL
          have hmb := HFF.out.mb
          have j2 : IntKind.i64.wrap (M + 1) = M + 1 := IntWalk.i64_in _ ⟨by omega, by omega⟩
          clear CL eQ
          obtain ⟨⟨y0, y1, y2, y3, y4⟩, _⟩ := HDF.out.at
          go_upto_region 23 with (go_at_call 7; refine HCLL.out.mono ?_; rintro e W23 ⟨rfl, hb23⟩)
          have HBL := Lib.hid (HDF.out.bel.on hb23)
          clear y0 y1 y2 y3 y4 hb23 HDF HCLL HS
          go_wp2_with (go_at_call 12; refine (works_any _).mono ?_; rintro e W24 ⟨rfl, hb24⟩)
          go_ret
          exact ⟨rfl, HBL.out.on hb24⟩
    · have hC : ¬ 0 < C := by have := HFF.out.em; omega
      have f1 : (eM != 0) = true := by simp [hM]
      have f2 : (eM == 0) = false := by simp [hM]
      go_wp2_with (go_at_call 12; refine (works_any _).mono ?_; rintro e W4 ⟨rfl, hb4⟩)
      go_ret
      exact ⟨rfl, HD9.out.bel.on hb4⟩
end Go.Proofs.Ytlkdkamhebggbaa.drn
