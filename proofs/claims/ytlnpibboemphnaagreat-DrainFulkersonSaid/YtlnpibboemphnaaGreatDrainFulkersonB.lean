/- DrainFulkerson: the law's body. -/
import Derived.Test.YtlnpibboemphnaaGreatDrnMd
import Derived.Test.YtlnpibboemphnaaGreatQa7
import Derived.Test.YtlnpibboemphnaaGreatDrnFk
import Derived.Test.YtlnpibboemphnaaGreatQa8
import Derived.Test.YtlnpibboemphnaaGreatDrnMoA
import Derived.Deep.CutRange
import Derived.Deep.DeepCutAuto
import Derived.Deep.CutBlock
import Derived.BigRegion
import Derived.BigQuiet
import Derived.Test.YtlnpibboemphnaaGreatKw
namespace Go.Proofs.YtlnpibboemphnaaGreat.drn
open Go.RowKit
open Go.Proofs.YtlnpibboemphnaaGreat.ev (works_any)
set_option linter.unusedSimpArgs false
set_option linter.unusedVariables false
theorem sizeAdit : (Tryz.prog.info? 25).map (·.size) = some 22 := by kernel_rfl
theorem wpList_loadA {ops : Array Oper} {rest : List Oper} {op : Oper} {a : Act} {w : World} {Q : Exit → Act → World → Prop} (xs : List Int) (hxl : xs.length = 22) (B : Nat) (hb : BoxAt w B xs) (x : Operand) (hgd : op.guard = none) (ho : op.op = .load 25 x)
    (hx : a.eval x = .pointer (some ⟨B, 0, none⟩)) (h : wpList Tryz.prog ops Q rest (a.put op.dst (.agg (flat8 xs).toArray)) w) : wpList Tryz.prog ops Q (op :: rest) a w :=
  wpList_load_mid hgd 25 x ho B 0 hx (flat8 xs) _ hb.2 Tryz.underlying25 rfl (by rw [flat8_length, hxl]; exact sizeAdit) h
/-- the dues of a hill with a plan, all that the statement wants of them -/
theorem ful_facts {n : Nat} {cs : List Ch} (hc : Chs n cs) (h0 : errD n cs = 0) (hw : wetS n cs = allS n) :
    ∃ ds, duesOf n cs = (ds, 0) ∧ ds.length ≤ 14 ∧ (∀ d ∈ ds, grErr n d.1 = 0 ∧ 1 ≤ d.2 ∧ d.2 ≤ 20) ∧ ds.foldl (fun k d => k + d.2) 0 = leastS cs (plansS n cs) ∧
      (∀ i, i < cs.length → (chargeS cs ds).getD i 0 ≤ (cs.getD i (0, 0, 0)).2.2) ∧
      (∀ p ∈ plansS n cs, costS cs p = leastS cs (plansS n cs) → ∀ x ∈ p, (chargeS cs ds).getD x.toNat 0 = (cs.getD x.toNat (0, 0, 0)).2.2) ∧
      ∀ p ∈ plansS n cs, provesOf n cs p ds = if costS cs p = leastS cs (plansS n cs) then 0 else 14 := by
  obtain ⟨he1, he2⟩ := dues_each (cs.length + 1) hc hw
  obtain ⟨f1, f2, f3⟩ := fulkerson hc hw
  have hcm := hc.many
  refine ⟨duesF n (cs.length + 1) cs, ?_, by omega, he1, by rw [sumP_eq]; exact f1, ?_, ?_, ?_⟩
  · unfold duesOf
    rw [if_neg (fun h => h h0), if_neg (fun h => h hw)]
  all_goals generalize duesF n (cs.length + 1) cs = ds at *
  · intro i hi
    rw [chargeS_eq, getD_eq _ i 0 (by simpa using hi), List.getElem_map, getD_eq cs i _ hi]
    exact f2 _ (List.getElem_mem hi)
  · intro p hp hk x hx
    have hin := ext_in ((mem_plansS hc.n1 hc.ok p).1 hp).1 x hx
    have hi : x.toNat < cs.length := by omega
    have h1 := f3 p hp hk (cs.getD x.toNat (0, 0, 0)) (List.mem_map.2 ⟨x, hx, rfl⟩)
    rw [chargeS_eq, getD_eq _ _ 0 (by simpa using hi), List.getElem_map]
    rw [getD_eq cs _ _ hi] at h1 ⊢
    exact h1
  · intro p hp
    have h2 := proves_plan hc h0 hp (ds := ds) (duErr_zero (by omega) fun d hd => by have := he1 d hd; exact ⟨this.1, this.2.1, by omega⟩)
    have hno : ¬ ((List.zip (chargeS cs ds) cs).any (fun x => decide (x.2.2.2 < x.1)) = true) := fun h => by
      obtain ⟨i, hi, h3⟩ := (over_iff cs ds).1 h
      have h4 := f2 (cs.getD i (0, 0, 0)) (getD_mem cs i _ hi)
      rw [chargeS_eq, getD_eq _ i 0 (by simpa using hi), List.getElem_map, ← getD_eq cs i (0, 0, 0) hi] at h3
      omega
    rw [h2, if_neg hno, sumP_eq, f1]
    by_cases h5 : costS cs p = leastS cs (plansS n cs)
    · rw [if_pos h5, if_neg (fun h => h h5.symm)]
    · rw [if_neg h5, if_pos (fun h => h5 h.symm)]
set_option maxRecDepth 100000 in
set_option maxHeartbeats 8000000 in
theorem DrainFulkerson_any (xs : List Int) (hxl : xs.length = 22) (hxo : ∀ x ∈ xs, 0 ≤ x ∧ x ≤ 255) (w : World) :
    Calls Tryz.prog 3 #[.agg (flat8 xs).toArray] w fun e w' => e = .returned (.bool true) ∧ Below w.heap.size w w' := by
  have hworks : ∀ W : World, Calls Tryz.prog 18 #[] W fun e w' => e = .returned (.bool true) ∧ Below W.heap.size W w' := fun W => works_any W
  have hx0 := hxo _ (getD_mem xs 0 0 (by omega))
  obtain ⟨n, hn⟩ : ∃ n : Nat, (n : Int) = 1 + xs.getD 0 0 % ((6 : Nat) : Int) := ⟨(1 + xs.getD 0 0 % 6).toNat, by omega⟩
  have n1 : 1 ≤ n := by omega
  have n6 : n ≤ 6 := by omega
  have hE := made_err (m := 14) hxo n1 n6 (by omega)
  have CM := Lib.hid (fun W => made_any xs 6 14 n W hxl hxo (by omega) (by omega) (by omega) hn)
  have hlm : (madeS xs n 14).length ≤ 14 := made_len hxo n 14
  generalize madeS xs n 14 = cs at *
  obtain ⟨n', hnn, hchs⟩ := chs_of hE
  obtain rfl : n = n' := by omega
  have HE := Lib.hid hE
  have HCH := Lib.hid hchs
  have HWK := Lib.hid hworks
  have HXL := Lib.hid hxl
  clear hE hxo hxl hx0 hn hchs hworks hnn
  have b1 := BoxAt.new w xs 25
  have a1 : Below w.heap.size w (w.alloc (.cells (flat8 xs).toArray 25)) := (Below.refl _ _).alloc (Nat.le_refl _) _
  have HB0 := Lib.hid a1
  have HX0 := Lib.hid b1
  clear b1 a1
  go_enter Tryz.func3, Tryz.ntmps3
  go_upto_region 1 with fail
  generalize (w.alloc (.cells (flat8 xs).toArray 25)) = W0 at *
  go_upto_region 2 with (first
    | (refine wpList_loadA xs HXL.out _ HX0.out (.tmp 1) rfl rfl rfl ?_)
    | (go_at_call 11; refine (CM.out _).mono ?_; rintro e W1 ⟨q, c, rfl, hr, hq, hc, hb⟩; unfold hillV))
  have HBW := Lib.hid (HB0.out.on hb)
  obtain ⟨D, hD⟩ : ∃ D, W1.heap.size = D := ⟨_, rfl⟩
  have hv := Cell2.new W1 D hD (.int .i64 n) (.slice q cs.length c) 28
  have A0 : Below W1.heap.size W1 (W1.alloc (.cells #[.int .i64 n, .slice q cs.length c] 28)) := (Below.refl _ _).alloc (Nat.le_refl _) _
  have HD2 : Hid (Bd w (W1.alloc (.cells #[.int .i64 n, .slice q cs.length c] 28)) fun W => Cell2 W D (.int .i64 n) (.slice q cs.length c) ∧ RowV W q (flatT cs)) :=
    Lib.hid ⟨HBW.out.on A0, fun V hV => ⟨hv.below hv.1 hV, (hr.below (Nat.le_refl _) A0).below (Nat.le_refl _) hV⟩⟩
  have HCAP := Lib.hid hc
  have HQ := Lib.hid (fun a (ha : q = some a) => Nat.lt_of_lt_of_le (hq a ha).2 A0.size)
  clear hr hq hc hb A0 hv HB0 HX0 HBW CM
  rw [hD]
  generalize (W1.alloc (.cells #[.int .i64 n, .slice q cs.length c] 28)) = W2 at *
  clear hD
  obtain ⟨⟨v0, v1, v2, v3, v4⟩, _⟩ := HD2.out.at
  have hrow := fun W (hb : Below W2.heap.size W2 W) => (HD2.out.go hb).at.2
  have hpn := fun W (hb : Below W2.heap.size W2 W) => plans_any n c q cs W HCH.out (hrow W hb) (fun a ha => Nat.lt_of_lt_of_le (HQ.out a ha) hb.size)
  have hch := fun W (hb : Below W2.heap.size W2 W) => cheapest_any n c q cs W HCH.out (hrow W hb) (fun a ha => Nat.lt_of_lt_of_le (HQ.out a ha) hb.size)
  have hcp := fun W (hb : Below W2.heap.size W2 W) => Cheapest_any n q c cs W (hrow W hb) HCAP.out
  have hdu := fun W (hb : Below W2.heap.size W2 W) => Dues_any n q c cs W (hrow W hb) HCAP.out
  have hle := fun W (hb : Below W2.heap.size W2 W) => Least_any n q c cs W (hrow W hb) HCAP.out
  have hck := fun W (hb : Below W2.heap.size W2 W) => Check_any n q c cs W (hrow W hb) HCAP.out
  simp only [Int.toNat_natCast] at hcp hdu hle
  simp only [HE.out] at hck
  unfold hillV at hpn hch hcp hdu hle hck
  have HCK := Lib.hid hck
  clear hck hrow
  by_cases hpl : plansS n cs = []
  · have hch2 : ∀ W, Below W2.heap.size W2 W → Calls Tryz.prog 13 #[.agg #[.int .i64 n, .slice q cs.length c]] W fun e w' => e = .returned (.tuple #[.slice none 0 0, .int .i64 0, .int .i64 0]) ∧ Below W.heap.size W w' := fun W hb => (hch W hb).mono fun e w' h => ⟨h.1 hpl, h.2.2⟩
    have hdo : duesOf n cs = ([], 12) := by
      unfold duesOf
      rw [if_neg (fun h => h HE.out), if_pos]
      intro hw
      obtain ⟨l, hl⟩ := (plan_iff HCH.out.n6 HCH.out.ok).2 hw
      have := (mem_plansS HCH.out.n1 HCH.out.ok l).2 hl
      rw [hpl] at this
      cases this
    have hco : cheapestOf n cs = ([], 12) := by
      unfold cheapestOf
      rw [if_neg (fun h => h HE.out), hpl]
      rfl
    have hlo : leastOf n cs = (0, 12) := by
      unfold leastOf
      rw [if_neg (fun h => h HE.out), if_pos (by rw [hpl]; rfl)]
    rw [hdo] at hdu
    rw [hco] at hcp
    rw [hlo] at hle
    rw [hpl] at hpn
    have HPN := Lib.hid hpn
    have HCHP := Lib.hid hch2
    have HCP := Lib.hid hcp
    have HDU := Lib.hid hdu
    have HLE := Lib.hid hle
    clear hpn hch hch2 hcp hdu hle hdo hco hlo hpl
    go_upto_region 3 with (go_at_call 12; refine (HPN.out _ (Below.refl _ _)).mono ?_; rintro e W3 ⟨q1, c1, vs1, q2, c2, rfl, _, _, _, _, hb3⟩)
    obtain ⟨⟨u0, u1, u2, u3, u4⟩, _⟩ := (HD2.out.go hb3).at
    have HB3 := Lib.hid hb3
    clear hb3
    go_upto_region 4 with (go_at_call 13; refine (HCHP.out _ HB3.out).mono ?_; rintro e W4 ⟨rfl, hb4⟩)
    have HB4 := Lib.hid (HB3.out.on hb4)
    obtain ⟨⟨t0, t1, t2, t3, t4⟩, _⟩ := (HD2.out.go HB4.out).at
    clear hb4
    go_upto_region 5 with (go_at_call 14; refine (HCP.out _ HB4.out).mono ?_; rintro e W5 ⟨q5, c5, rfl, _, _, _, hb5⟩)
    have HB5 := Lib.hid (HB4.out.on hb5)
    obtain ⟨⟨s0, s1, s2, s3, s4⟩, _⟩ := (HD2.out.go HB5.out).at
    clear hb5
    go_upto_region 6 with (go_at_call 15; refine (HDU.out _ HB5.out).mono ?_; rintro e W6 ⟨q6, c6, vs6, rfl, _, hb6⟩)
    have HB6 := Lib.hid (HB5.out.on hb6)
    obtain ⟨⟨r0, r1, r2, r3, r4⟩, _⟩ := (HD2.out.go HB6.out).at
    clear hb6
    go_upto_region 7 with (go_at_call 16; refine (HLE.out _ HB6.out).mono ?_; rintro e W7 ⟨rfl, hb7⟩)
    have HB7 := Lib.hid (HB6.out.on hb7)
    obtain ⟨⟨p0, p1, p2, p3, p4⟩, _⟩ := (HD2.out.go HB7.out).at
    clear hb7
    go_wp2_with (first
      | (go_at_call 17; refine (HCK.out _ HB7.out).mono ?_; rintro e W8 ⟨rfl, hb8⟩)
      | (go_at_call 18; refine (HWK.out _).mono ?_; rintro e W9 ⟨rfl, hb9⟩))
    go_ret
    exact ⟨rfl, HD2.out.bel.on (HB7.out.on (hb8.on hb9))⟩
  · have hch2 : ∀ W, Below W2.heap.size W2 W → Calls Tryz.prog 13 #[.agg #[.int .i64 n, .slice q cs.length c]] W fun e w' => ∃ q c p, p ∈ plansS n cs ∧ cheapS cs (plansS n cs) = some p ∧ RowV w' q (flatI p) ∧
        e = .returned (.tuple #[.slice q p.length c, .int .i64 (leastS cs (plansS n cs)), .int .i64 ((plansS n cs).filter fun p => costS cs p == leastS cs (plansS n cs)).length]) ∧ Below W.heap.size W w' := fun W hb => (hch W hb).mono fun e w' h => by
      obtain ⟨q, c, p, h1, h2, h3, h4, h5⟩ := h.2.1 hpl
      exact ⟨q, c, p, h1, h3, h4, h5, h.2.2⟩
    have hw : wetS n cs = allS n := by
      obtain ⟨l, hl⟩ := List.exists_mem_of_ne_nil _ hpl
      exact (plan_iff HCH.out.n6 HCH.out.ok).1 ⟨l, (mem_plansS HCH.out.n1 HCH.out.ok l).1 hl⟩
    obtain ⟨ds, hdo, hdl, he1, hsum, hovr, htight, hprv⟩ := ful_facts HCH.out HE.out hw
    have hlo : leastOf n cs = (leastS cs (plansS n cs), 0) := least_of1 HE.out hpl
    have hco : ∀ p, cheapS cs (plansS n cs) = some p → cheapestOf n cs = (p, 0) := by
      intro p hp
      unfold cheapestOf
      rw [if_neg (fun h => h HE.out), hp]
    have hmany : 0 < ((plansS n cs).filter fun p => costS cs p == leastS cs (plansS n cs)).length := by
      obtain ⟨p, hp, h1, _⟩ := least_spec HCH.out.ok hpl
      rw [List.length_pos_iff_exists_mem]
      exact ⟨p, List.mem_filter.2 ⟨hp, by rw [h1]; simp⟩⟩
    have hps14 := plansS_len HCH.out
    have hpin := plansS_in HCH.out
    rw [hdo] at hdu
    rw [hlo] at hle
    generalize hPS : plansS n cs = ps at *
    generalize leastS cs ps = lst at *
    obtain ⟨many, hmn⟩ : ∃ m, (ps.filter fun p => costS cs p == lst).length = m := ⟨_, rfl⟩
    simp only [hmn] at hch2 hmany
    have hmf : ((many : Int) == 0) = false := beq_eq_false_iff_ne.2 (by omega)
    obtain ⟨m, hm⟩ : ∃ m, ps.length = m := ⟨_, rfl⟩
    have HPN := Lib.hid hpn
    have HCHP := Lib.hid hch2
    have HCP := Lib.hid hcp
    have HDU := Lib.hid hdu
    have HLE := Lib.hid hle
    have HE1 := Lib.hid he1
    have HSUM := Lib.hid hsum
    have HOVR := Lib.hid hovr
    have HTI := Lib.hid htight
    have HPRV := Lib.hid hprv
    have HCO := Lib.hid hco
    have HPIN := Lib.hid hpin
    have HPS := Lib.hid hPS
    have HM := Lib.hid hm
    clear hpn hch hch2 hcp hdu hle hdo hco hlo hpl he1 hsum hovr htight hprv hmn hw hpin hPS hm
    go_upto_region 3 with (go_at_call 12; refine (HPN.out _ (Below.refl _ _)).mono ?_; rintro e W3 ⟨q1, c1, vs1, q2, c2, rfl, hvl, hr1, hin, hr2, hb3⟩)
    obtain ⟨⟨u0, u1, u2, u3, u4⟩, _⟩ := (HD2.out.go hb3).at
    have HB3 := Lib.hid hb3
    have HVL := Lib.hid hvl
    have HR1 := Lib.hid hr1
    have HIN := Lib.hid hin
    have HR2 := Lib.hid hr2
    clear hb3 hvl hr1 hin hr2
    go_upto_region 4 with (go_at_call 13; refine (HCHP.out _ HB3.out).mono ?_; rintro e W4 ⟨q4, c4, p, hpm, hpc, hpr, rfl, hb4⟩)
    have HB4 := Lib.hid (HB3.out.on hb4)
    have HN4 := Lib.hid hb4
    have HPM := Lib.hid hpm
    have HPR := Lib.hid hpr
    have hcp2 := fun W hb => HCP.out W hb
    rw [HCO.out p hpc] at hcp2
    have HCP2 := Lib.hid hcp2
    obtain ⟨⟨t0, t1, t2, t3, t4⟩, _⟩ := (HD2.out.go HB4.out).at
    clear hb4 hpm hpc hpr hcp2 HCP HCO
    go_upto_region 5 with (go_at_call 14; refine (HCP2.out _ HB4.out).mono ?_; rintro e W5 ⟨q5, c5, rfl, hr5, _, _, hb5⟩)
    have HB5 := Lib.hid (HB4.out.on hb5)
    have HN5 := Lib.hid (HN4.out.on hb5)
    have HPR5 := Lib.hid (HPR.out.below (Nat.le_refl _) hb5)
    have HR5 := Lib.hid hr5
    obtain ⟨⟨s0, s1, s2, s3, s4⟩, _⟩ := (HD2.out.go HB5.out).at
    clear hb5 hr5
    go_upto_region 6 with (go_at_call 15; refine (HDU.out _ HB5.out).mono ?_; rintro e W6 ⟨q6, c6, vs6, rfl, hd6, hb6⟩)
    have HB6 := Lib.hid (HB5.out.on hb6)
    have HN6 := Lib.hid (HN5.out.on hb6)
    have HN56 := Lib.hid hb6
    have HD6 := Lib.hid hd6
    obtain ⟨⟨r0, r1, r2, r3, r4⟩, _⟩ := (HD2.out.go HB6.out).at
    clear hb6 hd6
    go_upto_region 7 with (go_at_call 16; refine (HLE.out _ HB6.out).mono ?_; rintro e W7 ⟨rfl, hb7⟩)
    have HB7 := Lib.hid (HB6.out.on hb7)
    have HN7 := Lib.hid (HN6.out.on hb7)
    have HN57 := Lib.hid (HN56.out.on hb7)
    have HN67 := Lib.hid hb7
    obtain ⟨⟨p0, p1, p2, p3, p4⟩, _⟩ := (HD2.out.go HB7.out).at
    clear hb7
    go_upto_region 9 with (go_at_call 17; refine (HCK.out _ HB7.out).mono ?_; rintro e W8 ⟨rfl, hb8⟩)
    have HB8 := Lib.hid (HB7.out.on hb8)
    have HN8 := Lib.hid (HN7.out.on hb8)
    have HN58 := Lib.hid (HN57.out.on hb8)
    have HD8 := Lib.hid (HD6.out.below (Nat.le_refl _) (HN67.out.on hb8))
    obtain ⟨⟨o0, o1, o2, o3, o4⟩, zr⟩ := (HD2.out.go HB8.out).at
    have hpd := paid_any n q c cs q6 c6 vs6 ds W8 HCH.out zr HD8.out (by omega) (fun d hd => by have := HE1.out d hd; exact ⟨this.1, this.2.1, by omega⟩)
    unfold hillV at hpd
    rw [HSUM.out] at hpd
    have HPD := Lib.hid hpd
    clear hb8 zr hpd
    clear u0 u1 u2 u3 u4 t0 t1 t2 t3 t4 s0 s1 s2 s3 s4 r0 r1 r2 r3 r4 p0 p1 p2 p3 p4
    go_upto_region 12 with (go_at_call 19; refine HPD.out.mono ?_; rintro e W9 ⟨q9, rfl, hr9, hb9⟩)
    have HB9 := Lib.hid (HB8.out.on hb9)
    have HN9 := Lib.hid (HN8.out.on hb9)
    have HD9 := Lib.hid (HD8.out.below (Nat.le_refl _) hb9)
    have HR9 := Lib.hid hr9
    have HP9 := Lib.hid (HPR5.out.below (Nat.le_refl _) (HN58.out.on hb9))
    have HC9 := Lib.hid (HR5.out.below (Nat.le_refl _) (HN58.out.on hb9))
    have hpl6 : p.length ≤ 1000000 := by have := (HPIN.out p HPM.out).2; omega
    have hsame := same_any q5 q4 c5 c4 p p W9 HC9.out HP9.out hpl6 hpl6
    rw [beq_self_eq_true] at hsame
    have HSAME := Lib.hid hsame
    have hd20 : ¬ (20 : Int) < (ds.length : Int) := by omega
    clear hb9 hr9 hsame o0 o1 o2 o3 o4
    go_upto_region 14 with (go_at_call 20; refine HSAME.out.mono ?_; rintro e W10 ⟨rfl, hb10⟩)
    have HBX := Lib.hid (HB9.out.on hb10)
    have HNX := Lib.hid (HN9.out.on hb10)
    have HDX := Lib.hid (HD9.out.below (Nat.le_refl _) hb10)
    have HRX := Lib.hid (HR9.out.below (Nat.le_refl _) hb10)
    obtain ⟨⟨x0, x1, x2, x3, x4⟩, hrT⟩ := (HD2.out.go HBX.out).at
    have HRT := Lib.hid hrT
    have HBF := Lib.hid (HD2.out.bel.on HBX.out)
    clear hb10 hrT v0 v1 v2 v3 v4
    have HALL := Lib.hid (show ∀ W, Below W10.heap.size W10 W → ∀ k, k < m → ∃ b off ql cl, q1 = some ⟨b, off, none⟩ ∧ W.cell? ⟨b, off + k, none⟩ = some (.slice ql (ps.getD k []).length cl) ∧ RowV W ql (flatI (ps.getD k [])) by
      intro W hb k hk
      have hkp : k < ps.length := by rw [HM.out]; exact hk
      obtain ⟨u, hu, ql, cl, rfl, hrl⟩ := InL.get k HIN.out hkp
      obtain ⟨b, off, rfl, hb2, hcell⟩ := HR1.out.at (k := k) (by rw [HVL.out]; exact hkp) (Nat.le_refl _) (HNX.out.on hb)
      exact ⟨b, off, ql, cl, rfl, hcell k _ hu, hrl.below (Nat.le_refl _) (HNX.out.on hb)⟩)
    have HKS := Lib.hid (show ∀ W, Below W10.heap.size W10 W → ∀ k, k < m → ∃ b off, q2 = some ⟨b, off, none⟩ ∧ b < W.heap.size ∧ W.cell? ⟨b, off + k, none⟩ = some (.int .i64 (costS cs (ps.getD k []))) by
      intro W hb k hk
      have hkp : k < ps.length := by rw [HM.out]; exact hk
      obtain ⟨b, off, rfl, hb2, hcell⟩ := rowI_at HR2.out (k := k) (by rw [List.length_map]; exact hkp) (Nat.le_refl _) (HNX.out.on hb)
      refine ⟨b, off, rfl, Nat.lt_of_lt_of_le hb2 (HNX.out.on hb).size, ?_⟩
      rw [hcell, getD_eq _ k 0 (by rw [List.length_map]; exact hkp), List.getElem_map, getD_eq ps k [] hkp])
    have hcl : (chargeS cs ds).length = cs.length := by simp [chargeS]
    have HCL := Lib.hid hcl
    have hprv : ∀ W, Below W10.heap.size W10 W → ∀ l ∈ ps, ∀ q7 c7, RowV W q7 (flatI l) → Calls Tryz.prog 21 #[.agg #[.int .i64 n, .slice q cs.length c], .slice q7 l.length c7, .slice q6 ds.length c6] W fun e w' => e = .returned (.int .i64 (if costS cs l = lst then 0 else 14)) ∧ Below W.heap.size W w' := by
      intro W hb l hl q7 c7 hr7
      have hgl : ∀ d ∈ ds, d.1.length ≤ 1000000 := fun d hd => by
        obtain ⟨h1, h2⟩ := setS_bd (HE1.out d hd).1
        have := sorted_le h1 h2
        omega
      have h := Proves_any n q c cs q7 c7 l q6 c6 vs6 ds W (HRT.out.below (Nat.le_refl _) hb) HCAP.out hr7 (by have := (HPIN.out l hl).2; omega) (HDX.out.below (Nat.le_refl _) hb) (by omega) hgl
      rw [Int.toNat_natCast, HPRV.out l hl] at h
      unfold hillV at h
      exact h
    have HPV := Lib.hid hprv
    clear hcl hprv HN4 HN5 HN6 HN7 HN8 HN9 HN56 HN57 HN58 HN67 HP9 HC9 HSAME HPD HD9 HR9 HB9 HB8 HD8 HB7 HD6 HB6 HB5 HR5 HPR5 HCP2 HPR HB4 HCHP HPN HDU HLE HCK
    go_wp2
    go_loopw [126] (fun i wl => ∃ t : Nat, t ≤ cs.length ∧ i = .int .i64 t ∧ Below W10.heap.size W10 wl) (fun i _ => cs.length - (intOf i).toNat)
    case atStart => exact ⟨0, Nat.zero_le _, rfl, Below.refl _ _⟩
    case round =>
      obtain ⟨t, ht, rfl, hbl⟩ := hrel
      by_cases htl : t < cs.length
      · obtain ⟨b3, off3, rfl, hb3, g1, g2, g3⟩ := rowT_at HRT.out htl (Nat.le_refl _) hbl
        obtain ⟨b4, off4, rfl, hb4, g4⟩ := rowI_at HRX.out (k := t) (by rw [HCL.out]; exact htl) (Nat.le_refl _) hbl
        have hle := HOVR.out t htl
        generalize cs.getD t (0, 0, 0) = ch at g1 g2 g3 hle
        generalize (chargeS cs ds).getD t 0 = cg at g4 hle
        obtain ⟨h1, h2, h3⟩ := ch
        dsimp only at g1 g2 g3 hle
        have hti : (t : Int) < (cs.length : Int) := by omega
        have hno : ¬ h3 < cg := by omega
        have hz6 := hbl.size
        go_upto_region 17 with fail
        obtain ⟨WA, hWA⟩ : ∃ WA, wr.alloc (.cells #[.int .i64 h1, .int .i64 h2, .int .i64 h3] 49) = WA := ⟨_, rfl⟩
        have hbA : Below wr.heap.size wr WA := by rw [← hWA]; exact (Below.refl _ _).alloc (Nat.le_refl _) _
        have hblA : Below W10.heap.size W10 WA := hbl.on hbA
        have s2 : WA.cell? ⟨wr.heap.size, 2, none⟩ = some (.int .i64 h3) := by rw [← hWA]; simp
        have s4 := (hbA.cell (p := ⟨b4, off4 + t, none⟩) (by show b4 < wr.heap.size; omega)).trans g4
        rw [hWA]
        clear hWA hbA g1 g2 g3 g4
        go_region
        go_wp2
        go_roundw
        case rel => exact ⟨t + 1, htl, by go_num, hblA.drew⟩
        case measure => simp [intOf]; omega
      · obtain rfl : t = cs.length := by omega
        have HBL := Lib.hid hbl
        clear hbl x0 x1 x2 x3 x4
        go_wp2
        go_loopw [141] (fun i wl => ∃ k : Nat, k ≤ ps.length ∧ i = .int .i64 k ∧ Below W10.heap.size W10 wl) (fun i _ => ps.length - (intOf i).toNat)
        case atStart => exact ⟨0, Nat.zero_le _, rfl, HBL.out⟩
        case round =>
          obtain ⟨k, hk, rfl, hbk⟩ := hrel
          by_cases hkl : k < ps.length
          · obtain ⟨b5, off5, ql, cl, rfl, g1, grow⟩ := HALL.out _ hbk k (by rw [← HM.out]; exact hkl)
            obtain ⟨b6, off6, rfl, hb6, g2⟩ := HKS.out _ hbk k (by rw [← HM.out]; exact hkl)
            have hmem := getD_mem ps k [] hkl
            have hli := HPIN.out _ hmem
            have hti := HTI.out _ hmem
            have hpv := fun W hb => HPV.out W hb _ hmem
            generalize ps.getD k [] = l at g1 g2 grow hmem hli hti hpv
            generalize costS cs l = kc at g2 hti hpv
            have HLI := Lib.hid hli.1
            have hl14 := hli.2
            have HTL := Lib.hid hti
            have HPL := Lib.hid hpv
            have HGR := Lib.hid grow
            have HBK := Lib.hid hbk
            have HG2 := Lib.hid g2
            have hki : (k : Int) < (ps.length : Int) := by omega
            clear hmem hli hti hpv grow hbk
            go_wp2
            go_loopw [148] (fun i wl => ∃ j : Nat, j ≤ l.length ∧ i = .int .i64 j ∧ Below wr.heap.size wr wl) (fun i _ => l.length - (intOf i).toNat)
            case atStart => exact ⟨0, Nat.zero_le _, rfl, Below.refl _ _⟩
            case round =>
              obtain ⟨j, hj, rfl, hbj⟩ := hrel
              by_cases hjl : j < l.length
              · obtain ⟨b7, off7, rfl, hb7, g7⟩ := rowI_at HGR.out hjl (Nat.le_refl _) hbj
                have hxm := getD_mem l j 0 hjl
                have hxr := HLI.out _ hxm
                have hxt := fun h => HTL.out h _ hxm
                generalize l.getD j 0 = x at g7 hxm hxr hxt
                obtain ⟨x, rfl⟩ : ∃ y : Nat, x = y := ⟨x.toNat, by omega⟩
                have hxl2 : x < cs.length := by omega
                rw [Int.toNat_natCast] at hxt
                have hbjj := HBK.out.on hbj
                have HBJ := Lib.hid hbjj
                have HBJ2 := Lib.hid hbj
                obtain ⟨b3, off3, rfl, hb3, m1, m2, m3⟩ := rowT_at HRT.out hxl2 (Nat.le_refl _) hbjj
                obtain ⟨b4, off4, rfl, hb4, m4⟩ := rowI_at HRX.out (k := x) (by rw [HCL.out]; exact hxl2) (Nat.le_refl _) hbjj
                obtain ⟨⟨y0, y1, y2, y3, y4⟩, _⟩ := ((HD2.out.go HBX.out).go hbjj).at
                have g2j := (hbj.cell (p := ⟨b6, off6 + k, none⟩) hb6).trans HG2.out
                generalize cs.getD x (0, 0, 0) = ch at m1 m2 m3 hxt
                generalize (chargeS cs ds).getD x 0 = cg at m4 hxt
                obtain ⟨h1, h2, h3⟩ := ch
                dsimp only at m1 m2 m3 hxt
                have hji : (j : Int) < (l.length : Int) := by omega
                have hxi : (x : Int) < (cs.length : Int) := by omega
                clear hbj hbjj hxm hxr
                go_upto_region 26 with fail
                by_cases hk2 : kc = lst
                · have hxe := hxt hk2
                  have hcb : (kc == lst) = true := beq_iff_eq.2 hk2
                  have hce : (cg != h3) = false := by rw [hxe]; simp
                  clear hxt hk2 hxe
                  go_quiet (fail)
                  go_wp2
                  go_roundw
                  case rel => exact ⟨j + 1, hjl, by go_num, below_drewN HBJ2.out _⟩
                  case measure => simp [intOf]; omega
                · have hcb : (kc == lst) = false := beq_eq_false_iff_ne.2 hk2
                  clear hxt hk2
                  go_quiet (fail)
                  go_wp2
                  go_roundw
                  case rel => exact ⟨j + 1, hjl, by go_num, below_drewN HBJ2.out _⟩
                  case measure => simp [intOf]; omega
              · obtain rfl : j = l.length := by omega
                have HBJ := Lib.hid (HBK.out.on hbj)
                have g2j := (hbj.cell (p := ⟨b6, off6 + k, none⟩) hb6).trans HG2.out
                obtain ⟨⟨y0, y1, y2, y3, y4⟩, _⟩ := ((HD2.out.go HBX.out).go HBJ.out).at
                have hpv2 := HPL.out wr HBJ.out ql cl (HGR.out.below (Nat.le_refl _) hbj)
                by_cases hk2 : kc = lst
                · rw [if_pos hk2] at hpv2
                  have HPV2 := Lib.hid hpv2
                  have hcb : (kc == lst) = true := beq_iff_eq.2 hk2
                  clear hpv2 hbj hk2
                  by_cases h40 : k < 40
                  · have h40i : (k : Int) < 40 := by omega
                    go_wp2_with (go_at_call 21; refine HPV2.out.mono ?_; rintro e w9 ⟨rfl, hb9⟩)
                    go_roundw
                    case rel => exact ⟨k + 1, hkl, by go_num, HBJ.out.on hb9⟩
                    case measure => simp [intOf]; omega
                  · have h40i : ¬ (k : Int) < 40 := by omega
                    go_wp2
                    go_roundw
                    case rel => exact ⟨k + 1, hkl, by go_num, HBJ.out⟩
                    case measure => simp [intOf]; omega
                · rw [if_neg hk2] at hpv2
                  have HPV2 := Lib.hid hpv2
                  have hcb : (kc == lst) = false := beq_eq_false_iff_ne.2 hk2
                  clear hpv2 hbj hk2
                  by_cases h40 : k < 40
                  · have h40i : (k : Int) < 40 := by omega
                    go_wp2_with (go_at_call 21; refine HPV2.out.mono ?_; rintro e w9 ⟨rfl, hb9⟩)
                    go_roundw
                    case rel => exact ⟨k + 1, hkl, by go_num, HBJ.out.on hb9⟩
                    case measure => simp [intOf]; omega
                  · have h40i : ¬ (k : Int) < 40 := by omega
                    go_wp2
                    go_roundw
                    case rel => exact ⟨k + 1, hkl, by go_num, HBJ.out⟩
                    case measure => simp [intOf]; omega
          · obtain rfl : k = ps.length := by omega
            go_wp2_with (go_at_call 18; refine (HWK.out _).mono ?_; rintro e wz ⟨rfl, hbz⟩)
            go_ret
            exact ⟨rfl, HBF.out.on (hbk.on hbz)⟩
end Go.Proofs.YtlnpibboemphnaaGreat.drn
