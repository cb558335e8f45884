/- DrainShown: the law's body. -/
import Derived.Test.YtlnpibboemphnaaGreatDrnMd
import Derived.Test.YtlnpibboemphnaaGreatQa7
import Derived.Test.YtlnpibboemphnaaGreatQa8
import Derived.Deep.CutRange
import Derived.Deep.DeepCutAuto
import Derived.Deep.CutBlock
import Derived.BigRegion
import Derived.Test.YtlnpibboemphnaaGreatKw

namespace Go.Proofs.YtlnpibboemphnaaGreat.drn
open Go.RowKit
open Go.Proofs.YtlnpibboemphnaaGreat.ev (works_any)
set_option linter.unusedSimpArgs false
set_option linter.unusedVariables false
theorem sizeAdit : (Tryz.prog.info? 25).map (·.size) = some 22 := by kernel_rfl
theorem wpList_loadA {ops : Array Oper} {rest : List Oper} {op : Oper} {a : Act} {w : World} {Q : Exit → Act → World → Prop} (xs : List Int) (hxl : xs.length = 22) (B : Nat) (hb : BoxAt w B xs) (x : Operand) (hgd : op.guard = none) (ho : op.op = .load 25 x)
    (hx : a.eval x = .pointer (some ⟨B, 0, none⟩)) (h : wpList Tryz.prog ops Q rest (a.put op.dst (.agg (flat8 xs).toArray)) w) : wpList Tryz.prog ops Q (op :: rest) a w :=
  wpList_load_mid hgd 25 x ho B 0 hx (flat8 xs) _ hb.2 Tryz.underlying25 rfl (by rw [flat8_length, hxl]; exact sizeAdit) h
/-- some channel up to one is charged too much -/
def ovS (cs : List Ch) (es : List Du) (t : Nat) : Bool := (List.range t).any fun i => decide ((cs.getD i (0, 0, 0)).2.2 < (chargeS cs es).getD i 0)
theorem ovS_step (cs : List Ch) (es : List Du) (t : Nat) : ovS cs es (t + 1) = (ovS cs es t || decide ((cs.getD t (0, 0, 0)).2.2 < (chargeS cs es).getD t 0)) := by
  unfold ovS
  rw [List.range_succ, List.any_append]
  simp
theorem ovS_all (cs : List Ch) (es : List Du) : (List.zip (chargeS cs es) cs).any (fun x => decide (x.2.2.2 < x.1)) = true ↔ ovS cs es cs.length = true := by
  rw [over_iff]
  unfold ovS
  rw [List.any_eq_true]
  constructor
  · rintro ⟨i, hi, h⟩
    exact ⟨i, List.mem_range.2 hi, decide_eq_true h⟩
  · rintro ⟨i, hi, h⟩
    exact ⟨i, List.mem_range.1 hi, of_decide_eq_true h⟩
theorem two6 (n : Nat) (h : n ≤ 6) : ∃ P : Nat, Hid (2 ^ n = P) ∧ wrap64 (2 ^ n) = (P : Int) ∧ 0 < P ∧ P ≤ 64 ∧ ¬ (P : Int) = 0 := by
  have key : ∀ k : Nat, k ≤ 6 → wrap64 (2 ^ k) = ((2 ^ k : Nat) : Int) ∧ 0 < 2 ^ k ∧ 2 ^ k ≤ 64 := by decide +kernel
  obtain ⟨h1, h2, h3⟩ := key n h
  refine ⟨2 ^ n, Lib.hid rfl, h1, h2, h3, ?_⟩
  generalize 2 ^ n = P at h2
  omega
set_option maxRecDepth 100000 in
set_option maxHeartbeats 8000000 in
theorem DrainShown_any (xs : List Int) (told : Int) (ms : List Int) (group pay : Int) (hxl : xs.length = 22) (hml : ms.length = 14) (hxo : ∀ x ∈ xs, 0 ≤ x ∧ x ≤ 255) (ht : 0 ≤ told ∧ told ≤ 65535) (hmo : ∀ x ∈ ms, 0 ≤ x ∧ x ≤ 255) (hg : 0 ≤ group ∧ group ≤ 255) (hp : 0 ≤ pay ∧ pay ≤ 255) (w : World) :
    Calls Tryz.prog 10 #[.agg (flat8 xs).toArray, .int .u16 told, .agg (flat8 ms).toArray, .int .u8 group, .int .u8 pay] w fun e w' => e = .returned (.bool true) ∧ Below w.heap.size w w' := by
  have hworks : ∀ W : World, Calls Tryz.prog 18 #[] W fun e w' => e = .returned (.bool true) ∧ Below W.heap.size W w' := fun W => works_any W
  have hx0 := hxo _ (getD_mem xs 0 0 (by omega))
  obtain ⟨n, hn⟩ : ∃ n : Nat, (n : Int) = 1 + xs.getD 0 0 % ((5 : Nat) : Int) := ⟨(1 + xs.getD 0 0 % 5).toNat, by omega⟩
  have n1 : 1 ≤ n := by omega
  have n6 : n ≤ 6 := by omega
  have hE := made_err (m := 12) hxo n1 n6 (by omega)
  have CM := Lib.hid (fun W => made_any xs 5 12 n W hxl hxo (by omega) (by omega) (by omega) hn)
  have hlm : (madeS xs n 12).length ≤ 12 := made_len hxo n 12
  generalize madeS xs n 12 = cs at *
  obtain ⟨n', hnn, hchs⟩ := chs_of hE
  obtain rfl : n = n' := by omega
  have HE := Lib.hid hE
  have HCH := Lib.hid hchs
  have HWK := Lib.hid hworks
  have HXL := Lib.hid hxl
  have HML := Lib.hid hml
  have HMO := Lib.hid hmo
  clear hE hxo hxl hx0 hn hml hmo hchs hworks hnn
  have b1 := BoxAt.new w xs 25
  have b2 := BoxAt.new (w.alloc (.cells (flat8 xs).toArray 25)) ms 23
  have a1 : Below w.heap.size w (w.alloc (.cells (flat8 xs).toArray 25)) := (Below.refl _ _).alloc (Nat.le_refl _) _
  have a2 : Below (w.alloc (.cells (flat8 xs).toArray 25)).heap.size (w.alloc (.cells (flat8 xs).toArray 25)) ((w.alloc (.cells (flat8 xs).toArray 25)).alloc (.cells (flat8 ms).toArray 23)) := (Below.refl _ _).alloc (Nat.le_refl _) _
  have b1' := b1.keep b1.1 a2
  have hz1 : (w.alloc (.cells (flat8 xs).toArray 25)).heap.size = w.heap.size + 1 := by simp
  rw [hz1] at b2
  have HB0 := Lib.hid (a1.on a2)
  have HX0 := Lib.hid b1'
  have HM0 := Lib.hid b2
  clear b1 b2 a1 a2 b1' hz1
  go_enter Tryz.func10, Tryz.ntmps10
  go_upto_region 1 with fail
  generalize ((w.alloc (.cells (flat8 xs).toArray 25)).alloc (.cells (flat8 ms).toArray 23)) = W0 at *
  obtain ⟨M, hM⟩ : ∃ M, w.heap.size + 1 = M := ⟨_, rfl⟩
  rw [hM] at HM0 ⊢
  clear hM
  go_upto_region 2 with (first
    | (refine wpList_loadA xs HXL.out _ HX0.out (.tmp 5) rfl rfl rfl ?_)
    | (go_at_call 11; refine (CM.out _).mono ?_; rintro e W1 ⟨q, c, rfl, hr, hq, hc, hb⟩; unfold hillV))
  have HBW := Lib.hid (HB0.out.on hb)
  obtain ⟨D, hD⟩ : ∃ D, W1.heap.size = D := ⟨_, rfl⟩
  have hv := Cell2.new W1 D hD (.int .i64 n) (.slice q cs.length c) 28
  have A0 : Below W1.heap.size W1 (W1.alloc (.cells #[.int .i64 n, .slice q cs.length c] 28)) := (Below.refl _ _).alloc (Nat.le_refl _) _
  have hm1 := (HM0.out.keep HM0.out.1 hb)
  have hm2 := hm1.keep hm1.1 A0
  have HD2 : Hid (Bd w (W1.alloc (.cells #[.int .i64 n, .slice q cs.length c] 28)) fun W => Cell2 W D (.int .i64 n) (.slice q cs.length c) ∧ RowV W q (flatT cs) ∧ BoxAt W M ms) :=
    Lib.hid ⟨HBW.out.on A0, fun V hV => ⟨hv.below hv.1 hV, (hr.below (Nat.le_refl _) A0).below (Nat.le_refl _) hV, hm2.keep hm2.1 hV⟩⟩
  have HCAP := Lib.hid hc
  have HQ := Lib.hid (fun a (ha : q = some a) => Nat.lt_of_lt_of_le (hq a ha).2 A0.size)
  clear hr hq hc hb A0 hv hm1 hm2 HB0 HX0 HM0 HBW CM
  rw [hD]
  generalize (W1.alloc (.cells #[.int .i64 n, .slice q cs.length c] 28)) = W2 at *
  clear hD
  obtain ⟨⟨v0, v1, v2, v3, v4⟩, _, _⟩ := HD2.out.at
  have hch := fun W (hb : Below W2.heap.size W2 W) => cheapest_any n c q cs W HCH.out ((HD2.out.at.2.1).below (Nat.le_refl _) hb) (fun a ha => Nat.lt_of_lt_of_le (HQ.out a ha) hb.size)
  have hdu := fun W (hb : Below W2.heap.size W2 W) => Dues_any n q c cs W ((HD2.out.at.2.1).below (Nat.le_refl _) hb) HCAP.out
  rw [Int.toNat_natCast] at hdu
  unfold hillV at hch hdu
  by_cases hpl : plansS n cs = []
  · have hch2 : ∀ W, Below W2.heap.size W2 W → Calls Tryz.prog 13 #[.agg #[.int .i64 n, .slice q cs.length c]] W fun e w' => e = .returned (.tuple #[.slice none 0 0, .int .i64 0, .int .i64 0]) ∧ Below W.heap.size W w' := fun W hb => (hch W hb).mono fun e w' h => ⟨h.1 hpl, h.2.2⟩
    have hdo : duesOf n cs = ([], 12) := by
      unfold duesOf
      rw [if_neg (fun h => h HE.out), if_pos]
      intro hw
      obtain ⟨l, hl⟩ := (plan_iff HCH.out.n6 HCH.out.ok).2 hw
      have := (mem_plansS HCH.out.n1 HCH.out.ok l).2 hl
      rw [hpl] at this
      cases this
    rw [hdo] at hdu
    have HCHP := Lib.hid hch2
    have HDU := Lib.hid hdu
    clear hch hch2 hdu hdo hpl
    go_upto_region 3 with (go_at_call 13; refine (HCHP.out _ (Below.refl _ _)).mono ?_; rintro e W3 ⟨rfl, hb3⟩)
    obtain ⟨⟨u0, u1, u2, u3, u4⟩, _, _⟩ := (HD2.out.go hb3).at
    have HB3 := Lib.hid hb3
    clear hb3
    go_upto_region 4 with (go_at_call 15; refine (HDU.out _ HB3.out).mono ?_; rintro e W4 ⟨q4, c4, vs4, rfl, hd4, hb4⟩)
    have HBF := Lib.hid ((HD2.out.bel.on HB3.out).on hb4)
    clear hd4 hb4
    go_wp2_with (go_at_call 18; refine (HWK.out _).mono ?_; rintro e W5 ⟨rfl, hb5⟩)
    go_ret
    exact ⟨rfl, HBF.out.on hb5⟩
  · have hch2 : ∀ W, Below W2.heap.size W2 W → Calls Tryz.prog 13 #[.agg #[.int .i64 n, .slice q cs.length c]] W fun e w' => ∃ q c p, p ∈ plansS n cs ∧ costS cs p = leastS cs (plansS n cs) ∧ RowV w' q (flatI p) ∧
        e = .returned (.tuple #[.slice q p.length c, .int .i64 (leastS cs (plansS n cs)), .int .i64 ((plansS n cs).filter fun p => costS cs p == leastS cs (plansS n cs)).length]) ∧ Below W.heap.size W w' := fun W hb => (hch W hb).mono fun e w' h => by
      obtain ⟨q, c, p, h1, h2, _, h3, h4⟩ := h.2.1 hpl
      exact ⟨q, c, p, h1, h2, h3, h4, h.2.2⟩
    have hw : wetS n cs = allS n := by
      obtain ⟨l, hl⟩ := List.exists_mem_of_ne_nil _ hpl
      exact (plan_iff HCH.out.n6 HCH.out.ok).1 ⟨l, (mem_plansS HCH.out.n1 HCH.out.ok l).1 hl⟩
    have hdo : duesOf n cs = (duesF n (cs.length + 1) cs, 0) := by
      unfold duesOf
      rw [if_neg (fun h => h HE.out), if_neg (fun h => h hw)]
    obtain ⟨he1, he2⟩ := dues_each (cs.length + 1) HCH.out hw
    rw [hdo] at hdu
    have hmany : 0 < ((plansS n cs).filter fun p => costS cs p == leastS cs (plansS n cs)).length := by
      obtain ⟨p, hp, h1, _⟩ := least_spec HCH.out.ok hpl
      rw [List.length_pos_iff_exists_mem]
      exact ⟨p, List.mem_filter.2 ⟨hp, by rw [h1]; simp⟩⟩
    generalize duesF n (cs.length + 1) cs = ds at hdu he1 he2
    obtain ⟨many, hmn⟩ : ∃ m, ((plansS n cs).filter fun p => costS cs p == leastS cs (plansS n cs)).length = m := ⟨_, rfl⟩
    simp only [hmn] at hch2 hmany
    obtain ⟨lst, hlst⟩ : ∃ x, leastS cs (plansS n cs) = x := ⟨_, rfl⟩
    simp only [hlst] at hch2
    have HCHP := Lib.hid hch2
    have HDU := Lib.hid hdu
    have HE1 := Lib.hid he1
    have hdl : ds.length ≤ 12 := by omega
    have hmf : ((many : Int) == 0) = false := beq_eq_false_iff_ne.2 (by omega)
    clear hch hch2 hdu hdo he1 he2 hmn hlst
    go_upto_region 3 with (go_at_call 13; refine (HCHP.out _ (Below.refl _ _)).mono ?_; rintro e W3 ⟨qp, cp, p, hpm, hpc, hpr, rfl, hb3⟩)
    obtain ⟨⟨u0, u1, u2, u3, u4⟩, _, _⟩ := (HD2.out.go hb3).at
    have HB3 := Lib.hid hb3
    have HPR := Lib.hid hpr
    have HPM := Lib.hid hpm
    have HPC := Lib.hid hpc
    clear hb3 hpr hpm hpc
    go_upto_region 4 with (go_at_call 15; refine (HDU.out _ HB3.out).mono ?_; rintro e W4 ⟨q4, c4, vs4, rfl, hd4, hb4⟩)
    have HB4 := Lib.hid (HB3.out.on hb4)
    have HPR4 := Lib.hid (HPR.out.below (Nat.le_refl _) hb4)
    obtain ⟨⟨z0, z1, z2, z3, z4⟩, zr, zm⟩ := (HD2.out.go HB4.out).at
    have hpd : ∀ W, Below W4.heap.size W4 W → ∀ q2 c2 vs es, DuesAt W q2 vs es → es.length ≤ 20 → (∀ d ∈ es, grErr n d.1 = 0 ∧ 1 ≤ d.2 ∧ d.2 ≤ 280) →
        Calls Tryz.prog 19 #[.agg #[.int .i64 n, .slice q cs.length c], .slice q2 es.length c2] W fun e w' => ∃ qc, e = .returned (.tuple #[.int .i64 (es.foldl (fun k d => k + d.2) 0), .slice qc cs.length cs.length, .bool true]) ∧ RowV w' qc (flatI (chargeS cs es)) ∧ Below W.heap.size W w' := by
      intro W hb q2 c2 vs es h1 h2 h3
      have h := paid_any n q c cs q2 c2 vs es W HCH.out (zr.below (Nat.le_refl _) hb) h1 h2 h3
      unfold hillV at h
      exact h
    have HPD := Lib.hid hpd
    have HD4 := Lib.hid hd4
    have hd14 : ¬ (14 : Int) < (ds.length : Int) := by omega
    clear u0 u1 u2 u3 u4 v0 v1 v2 v3 v4 hb4 hd4 zr zm hpd
    go_upto_region 7 with (go_at_call 19; refine (HPD.out _ (Below.refl _ _) q4 c4 vs4 ds HD4.out (by omega) (fun d hd => by have := HE1.out d hd; exact ⟨this.1, this.2.1, by omega⟩)).mono ?_; rintro e W5 ⟨q5, rfl, hr5, hb5⟩)
    have HB5 := Lib.hid (HB4.out.on hb5)
    have HD5 := Lib.hid (HD4.out.below (Nat.le_refl _) hb5)
    have HPR5 := Lib.hid hb5
    obtain ⟨⟨t0, t1, t2, t3, t4⟩, _, _⟩ := (HD2.out.go HB5.out).at
    clear hr5 hb5 z0 z1 z2 z3 z4
    generalize ds.foldl (fun k d => k + d.2) 0 = sum0
    go_upto_region 9 with fail
    have HMS := Lib.hid (fun W (h : Below W5.heap.size W5 W) => (((HD2.out.go HB5.out).go h).at).2.2)
    go_wp2
    go_loopw [20, 71] (fun v i wr => ∃ (j : Nat) (es : List Du) (gv : List Value), j ≤ ds.length ∧ i = .int .i64 (j : Int) ∧ es.length ≤ j ∧ Hid (gv.length = es.length) ∧ Hid (wr.ownsRow W5.heap.size 56 2 v es.length (flatD gv es)) ∧ Hid (InL (ListR W5) gv (es.map (·.1))) ∧ Hid (∀ d ∈ es, grErr n d.1 = 0 ∧ 1 ≤ d.2 ∧ d.2 ≤ 21) ∧ Below W5.heap.size W5 wr) (fun _ i _ => ds.length - (intOf i).toNat)
    case atStart => exact ⟨0, [], [], Nat.zero_le _, rfl, Nat.zero_le _, Lib.hid rfl, Lib.hid (World.ownsRow_nil _ _ _ _), Lib.hid trivial, Lib.hid (fun d h => by cases h), Below.refl _ _⟩
    case round =>
      obtain ⟨j, es, gv, hj, rfl, hel, HGL, HO, HIN, HES, hbel⟩ := hrel
      by_cases hlt : j < ds.length
      · obtain ⟨b, off, qg, cg, rfl, hb, g1, g2, g3⟩ := HD5.out.at hlt
        have g1 := (hbel.cell (p := ⟨b, off + j * 2, none⟩) hb).trans g1
        have g2 := (hbel.cell (p := ⟨b, off + j * 2 + 1, none⟩) hb).trans g2
        have hok := HE1.out _ (getD_mem ds j ([], 0) hlt)
        have hmx := (HMS.out wr hbel).cell j (by rw [HML.out]; omega)
        have hmb := HMO.out _ (getD_mem ms j 0 (by rw [HML.out]; omega))
        generalize ds.getD j ([], 0) = d at g1 g2 g3 hok
        obtain ⟨gr, py⟩ := d
        dsimp only at *
        have hj14 : (j : Int) < 14 := by omega
        have hjl : (j : Int) < (ds.length : Int) := by omega
        have hz5 := hbel.size
        have HOK := Lib.hid hok
        have HG3 := Lib.hid g3
        have hA : Below wr.heap.size wr (wr.alloc (.cells #[.slice qg gr.length cg, .int .i64 py] 56)) := (Below.refl _ _).alloc (Nat.le_refl _) _
        have hA2 : Below W5.heap.size W5 (wr.alloc (.cells #[.slice qg gr.length cg, .int .i64 py] 56)) := hbel.alloc hz5 _
        have HOA := Lib.hid (owns_below HO.out (Nat.le_refl _) hA)
        have hmA := (HMS.out _ hA2).cell j (by rw [HML.out]; omega)
        generalize ms.getD j 0 = y at hmx hmb hmA
        obtain ⟨z, hz⟩ : ∃ z, y.tdiv 250 = z := ⟨_, rfl⟩
        have hz01 : 0 ≤ z ∧ z ≤ 1 := by rw [← hz, Int.tdiv_eq_ediv_of_nonneg hmb.1]; omega
        have hwy : IntKind.i64.wrap y = y := IntWalk.i64_in _ ⟨by omega, by omega⟩
        have hwz : IntKind.i64.wrap z = z := IntWalk.i64_in _ ⟨by omega, by omega⟩
        have hpy : 1 ≤ py ∧ py ≤ 20 := ⟨hok.2.1, hok.2.2⟩
        have hws : IntKind.i64.wrap (py + z) = py + z := IntWalk.i64_in _ ⟨by omega, by omega⟩
        obtain ⟨W7, hW7⟩ : ∃ W7, wr.alloc (.cells #[.slice qg gr.length cg, .int .i64 py] 56) = W7 := ⟨_, rfl⟩
        have d0 : W7.cell? ⟨wr.heap.size, 0, none⟩ = some (.slice qg gr.length cg) := by rw [← hW7]; simp
        have d1 : W7.cell? ⟨wr.heap.size, 1, none⟩ = some (.int .i64 py) := by rw [← hW7]; simp
        have dz : wr.heap.size < W7.heap.size := by rw [← hW7]; simp
        have HW7 := Lib.hid hW7
        rw [hW7] at HOA hA2 hmA
        clear hA hW7 hok g3
        go_upto_region 14 with fail
        · rw [HW7.out]
          have hN0 : u20.ownBlock ≠ some wr.heap.size := fun e => by have := (HO.out.lt _ e).2; omega
          have hNM : u20.ownBlock ≠ some M := fun e => by have h1 := (HO.out.lt _ e).1; have h2 := (HMS.out W5 (Below.refl _ _)).1; omega
          have hMz : M < W7.heap.size := by have h2 := (HMS.out W5 (Below.refl _ _)).1; omega
          have hBL := Lib.hid (fun cs t => ((Below.refl W7.heap.size W7).alloc (Nat.le_refl _) (.cells cs t)).drew)
          go_region_held3 (fun W => W.cell? ⟨wr.heap.size, 0, none⟩ = some (.slice qg gr.length cg) ∧ W.cell? ⟨wr.heap.size, 1, none⟩ = some (.int .i64 py) ∧ W.cell? ⟨M, j, none⟩ = some (.int .u8 y)) (first | exact ⟨d0, d1, hmA⟩ | exact ⟨e0, e1, e2⟩ | go_keep)
            (first
              | (refine step_one _ (by rfl) (.tmp 81) (.tmp 93) 39 (by rfl) W5.heap.size 56 _ 2 32 Tryz.underlying39 infoD rfl (by decide) (by decide) u20 es.length (flatD gv es) rfl (HOA.out.alloc _).drew W7.heap.size 1 rfl [.slice qg gr.length cg, .int .i64 (py + z)] rfl ?_ ?_ (by omega) (by simp; omega) ?_; (focus (intro j u hj; match j, hj with | 0, hj => (simp at hj; subst hj; simp) | 1, hj => (simp at hj; subst hj; simp))); (focus (intro u hu; simp at hu; rcases hu with rfl | rfl <;> rfl)); intro g8 c8 w8 hown8 hgr8 hbk8 hgz8; have e0 := hgr8.cell (((hBL.out _ _).cell (p := ⟨wr.heap.size, 0, none⟩) dz).trans d0) (by first | exact fun e => hN0 e | exact fun e => hN0 e.symm); have e1 := hgr8.cell (((hBL.out _ _).cell (p := ⟨wr.heap.size, 1, none⟩) dz).trans d1) (by first | exact fun e => hN0 e | exact fun e => hN0 e.symm); have e2 := hgr8.cell (((hBL.out _ _).cell (p := ⟨M, j, none⟩) hMz).trans hmA) (by first | exact fun e => hNM e | exact fun e => hNM e.symm))
              | fail)
          have hb8 : Below W5.heap.size W5 w8 := (hA2.on (hBL.out _ _)).trans (grown_below (HOA.out.alloc _).drew (by have := hA2.size; simp; omega) hgr8)
          have hD8 : w8.ownsRow W5.heap.size 56 2 (.slice (some ⟨g8, 0, none⟩) (es.length + 1) c8) (es ++ [(gr, py + z)]).length (flatD (gv ++ [.slice qg gr.length cg]) (es ++ [(gr, py + z)])) := by
            rw [flatD_snoc gv es _ _ HGL.out, List.length_append]
            exact hown8
          have hI8 : InL (ListR W5) (gv ++ [.slice qg gr.length cg]) ((es ++ [(gr, py + z)]).map (·.1)) := by
            rw [List.map_append]
            exact InL.app HIN.out ⟨⟨qg, cg, rfl, HG3.out⟩, trivial⟩
          have hE8 : ∀ d ∈ es ++ [(gr, py + z)], grErr n d.1 = 0 ∧ 1 ≤ d.2 ∧ d.2 ≤ 21 := by
            intro d hd
            rcases List.mem_append.1 hd with hd | hd
            · exact HES.out d hd
            · rw [List.mem_singleton] at hd
              subst hd
              exact ⟨HOK.out.1, by show 1 ≤ py + z; omega, by show py + z ≤ 21; omega⟩
          have HD8 := Lib.hid hD8
          have HI8 := Lib.hid hI8
          have HE8 := Lib.hid hE8
          clear hD8 hI8 hE8 hown8 hgr8 hbk8 e0 e1 e2
          go_wp2
          go_roundw
          case rel => exact ⟨j + 1, es ++ [(gr, py + z)], gv ++ [.slice qg gr.length cg], hlt, by go_num, by simp; omega, Lib.hid (by simp [HGL.out]), HD8, HI8, HE8, hb8⟩
          case measure => simp [intOf]; omega
        · rw [HW7.out]
          go_wp2
          go_roundw
          case rel => exact ⟨j + 1, es, gv, hlt, by go_num, by omega, HGL, HOA, HIN, HES, hA2⟩
          case measure => simp [intOf]; omega
      · obtain rfl : j = ds.length := by omega
        have HBL := Lib.hid hbel
        obtain ⟨⟨y0, y1, y2, y3, y4⟩, _, _⟩ := ((HD2.out.go HB5.out).go HBL.out).at
        clear t0 t1 t2 t3 t4 hbel
        obtain ⟨P, HPP, hPe, hP0, hP64, hPn⟩ := two6 n n6
        go_upto_region 17 with fail
        obtain ⟨S, hS⟩ : ∃ S : Nat, group % (P : Int) = S := ⟨(group % (P : Int)).toNat, by have := Int.emod_nonneg group hPn; omega⟩
        have hSP : S < P := by have := Int.emod_lt_of_pos group (show (0 : Int) < P by omega); omega
        rw [hS]
        clear hS
        go_cut [108] (fun v W => v = .bool (decide (S ≠ 0 ∧ pay % 2 = 1)) ∧ W = wr)
        case first =>
          by_cases h0 : S = 0
          · subst h0
            go_wp2
            go_meet
            exact ⟨by simp, rfl⟩
          · have h0i : ¬ (S : Int) = 0 := by omega
            by_cases h1 : pay % 2 = 1
            · go_wp2
              go_meet
              exact ⟨by simp [h0, h1], rfl⟩
            · go_wp2
              go_meet
              exact ⟨by simp [h0, h1], rfl⟩
        case rest =>
        obtain ⟨rfl, hwc⟩ := hcut
        have hwc := hwc.symm
        subst hwc
        go_upto_if 108 with fail
        go_cut [20, 108] (fun v _ W => ∃ (es : List Du) (gv : List Value) (q2 : Option Addr) (c2 : Nat), v = .slice q2 es.length c2 ∧ es.length ≤ 20 ∧ Hid (DuesAt W q2 gv es) ∧ Hid (∀ d ∈ es, grErr n d.1 = 0 ∧ 1 ≤ d.2 ∧ d.2 ≤ 21) ∧ Below W5.heap.size W5 W)
        case first =>
          have hno : ∃ (q2 : Option Addr) (c2 : Nat), u20 = .slice q2 es.length c2 ∧ DuesAt wr q2 gv es := by
            obtain ⟨q2, c2, e2, hr2⟩ := own_form HO.out (by intro h; have h1 := List.length_eq_zero_iff.1 h; have h2 : gv = [] := List.length_eq_zero_iff.1 (by have := HGL.out; omega); rw [h1, h2]; rfl)
            exact ⟨q2, c2, e2, ⟨hr2, InL.mono (fun v l ⟨q, c, e, h⟩ => ⟨q, c, e, h.below (Nat.le_refl _) HBL.out⟩) HIN.out⟩⟩
          have HNO := Lib.hid hno
          have hel20 : es.length ≤ 12 := by omega
          clear hno
          by_cases hx : S ≠ 0 ∧ pay % 2 = 1
          · have hxd : decide (S ≠ 0 ∧ pay % 2 = 1) = true := decide_eq_true hx
            rw [hxd]
            obtain ⟨h0, h1⟩ := hx
            have hwp : IntKind.i64.wrap pay = pay := IntWalk.i64_in _ ⟨by omega, by omega⟩
            obtain ⟨z2, hz2⟩ : ∃ z, pay.tdiv 64 = z := ⟨_, rfl⟩
            have hz23 : 0 ≤ z2 ∧ z2 ≤ 3 := by rw [← hz2, Int.tdiv_eq_ediv_of_nonneg hp.1]; omega
            have hwz2 : IntKind.i64.wrap z2 = z2 := IntWalk.i64_in _ ⟨by omega, by omega⟩
            have hws2 : IntKind.i64.wrap (1 + z2) = 1 + z2 := IntWalk.i64_in _ ⟨by omega, by omega⟩
            have hS64 : S < 64 := by omega
            have hGS := Lib.hid (gr_listS (n := n) n6 h0 (show S < 2 ^ n by rw [HPP.out]; exact hSP))
            go_wp2_with (first
              | (go_at_call 24; refine (members_any S _ hS64).mono ?_; rintro e w7 ⟨v7, rfl, hown7, hb7⟩; obtain ⟨q7, c7, rfl, hr7, _, hq7⟩ := rowV_of_owns hown7 (by intro h; rw [List.length_eq_zero_iff] at h; rw [h]; rfl); have HO7 := Lib.hid (owns_below HO.out (Nat.le_refl _) hb7); have hz7 : W5.heap.size ≤ w7.heap.size := Nat.le_trans HBL.out.size hb7.size)
              | (at_builtin; refine app_one _ rfl (.tmp 109) (.tmp 117) 39 rfl W5.heap.size 56 _ 2 32 Tryz.underlying39 infoD rfl (by decide) (by decide) u20 es.length (flatD gv es) rfl (HO7.out.alloc _) w7.heap.size 1 rfl [.slice q7 (listS S).length c7, .int .i64 (1 + z2)] rfl ?_ ?_ (by omega) (by simp; omega) ?_; (focus (intro j u hj; match j, hj with | 0, hj => (simp at hj; subst hj; simp) | 1, hj => (simp at hj; subst hj; simp))); (focus (intro u hu; simp at hu; rcases hu with rfl | rfl <;> rfl)); intro v8 w8 hown8 hgr8 hbk8))
            go_meet
            have hbE : Below w7.heap.size w7 (w7.alloc (.cells #[.slice q7 (listS S).length c7, .int .i64 (1 + z2)] 56)) := (Below.refl _ _).alloc (Nat.le_refl _) _
            have hb8 : Below W5.heap.size W5 w8 := ((HBL.out.on hb7).on hbE).trans (grown_below (HO7.out.alloc _) (by simp; omega) hgr8)
            have hr8 : RowV w8 q7 (flatI (listS S)) := (hr7.below (Nat.le_refl _) hbE).grown (fun a ha e => by have h1 := hq7 a ha; have h2 := (HO.out.lt _ e.symm).2; omega) hgr8
            obtain ⟨q2, c2, e2, hr2⟩ := own_form hown8 (fun h => by omega)
            rw [← flatD_snoc gv es _ (listS S, 1 + z2) HGL.out] at hr2
            refine ⟨es ++ [(listS S, 1 + z2)], gv ++ [.slice q7 (listS S).length c7], q2, c2, by rw [e2, List.length_append]; rfl, by rw [List.length_append]; simp; omega, Lib.hid ⟨hr2, ?_⟩, Lib.hid (fun d hd => ?_), hb8⟩
            · rw [List.map_append]
              exact InL.app (InL.mono (fun v l ⟨q, c, e, h⟩ => ⟨q, c, e, h.below (Nat.le_refl _) hb8⟩) HIN.out) ⟨⟨q7, c7, rfl, hr8⟩, trivial⟩
            · rcases List.mem_append.1 hd with hd | hd
              · exact HES.out d hd
              · rw [List.mem_singleton] at hd
                subst hd
                exact ⟨hGS.out, by show 1 ≤ 1 + z2; omega, by show 1 + z2 ≤ 21; omega⟩
          · have hxd : decide (S ≠ 0 ∧ pay % 2 = 1) = false := decide_eq_false hx
            rw [hxd]
            go_wp2
            go_meet
            obtain ⟨q2, c2, e2, hd2⟩ := HNO.out
            exact ⟨es, gv, q2, c2, e2, by omega, Lib.hid hd2, HES, HBL.out⟩
        case rest =>
          clear HO HIN HGL HES HBL hel hj hlt HPP hPe hPn hP0 hP64 y0 y1 y2 y3 y4
          clear es gv
          obtain ⟨es, gv, q2, c2, rfl, hes20, HDS, HEE, hbc⟩ := hcut
          have HBC := Lib.hid (HB5.out.on hbc)
          have HPRC := Lib.hid ((HPR4.out.below (Nat.le_refl _) HPR5.out).below (Nat.le_refl _) hbc)
          obtain ⟨⟨x0, x1, x2, x3, x4⟩, _, _⟩ := (HD2.out.go HBC.out).at
          have HPAY := Lib.hid (HPD.out wc (HPR5.out.on hbc) q2 c2 gv es HDS.out hes20 (fun d hd => by have := HEE.out d hd; exact ⟨this.1, this.2.1, by omega⟩))
          have hds0 : duErr n es = 0 := duErr_zero hes20 (fun d hd => by have := HEE.out d hd; exact ⟨this.1, this.2.1, by omega⟩)
          have hfin := proves_plan HCH.out HE.out HPM.out hds0
          rw [HPC.out] at hfin
          have hchg : chargedOf n cs es = (chargeS cs es, 0) := by
            unfold chargedOf
            rw [if_neg (fun h => h HE.out), if_neg (fun h => h hds0)]
          have hgl : ∀ d ∈ es, d.1.length ≤ 1000000 := fun d hd => by
            obtain ⟨h1, h2⟩ := setS_bd (HEE.out d hd).1
            have := sorted_le h1 h2
            omega
          have hov := over_iff cs es
          have hcl : (chargeS cs es).length = cs.length := by simp [chargeS]
          have HCL := Lib.hid hcl
          have HFIN := Lib.hid hfin
          have HCHG := Lib.hid hchg
          have HGLE := Lib.hid hgl
          have HOV := Lib.hid hov
          clear hcl hfin hchg hgl hov hds0 hbc
          generalize es.foldl (fun k d => k + d.2) 0 = sum at HPAY HFIN
          go_upto_region 22 with (go_at_call 19; refine HPAY.out.mono ?_; rintro e W6 ⟨qc, rfl, hrc, hb6⟩)
          have HRC := Lib.hid hrc
          have HB6 := Lib.hid (HBC.out.on hb6)
          have HDS6 := Lib.hid (HDS.out.below (Nat.le_refl _) hb6)
          have HPR6 := Lib.hid (HPRC.out.below (Nat.le_refl _) hb6)
          obtain ⟨⟨x0, x1, x2, x3, x4⟩, hrT, _⟩ := (HD2.out.go HB6.out).at
          have HRT := Lib.hid hrT
          clear hrc hrT hb6
          go_upto_region 23 with fail
          go_cut [130] (fun v W => v = .bool (decide (sum ≠ lst)) ∧ W = W6)
          case first =>
            by_cases hsl : sum = lst
            · go_wp2
              go_meet
              exact ⟨by simp [hsl], rfl⟩
            · go_wp2
              go_meet
              exact ⟨by simp [hsl], rfl⟩
          case rest =>
          obtain ⟨rfl, hwc⟩ := hcut
          have hwc := hwc.symm
          subst hwc
          go_upto_if 130 with fail
          go_cut [27, 130] (fun v _ W => v = .int .i64 (if sum = lst then 0 else 14) ∧ W = W6)
          case first =>
            by_cases hsl : sum = lst
            · have hd : decide (sum ≠ lst) = false := by simp [hsl]
              have HSL := Lib.hid hsl
              clear hsl
              rw [hd]
              go_wp2
              go_meet
              exact ⟨by rw [if_pos HSL.out], rfl⟩
            · have hd : decide (sum ≠ lst) = true := by simp [hsl]
              have HSL := Lib.hid hsl
              clear hsl
              rw [hd]
              go_wp2
              go_meet
              exact ⟨by rw [if_neg HSL.out], rfl⟩
          case rest =>
          obtain ⟨rfl, hwc⟩ := hcut
          have hwc := hwc.symm
          subst hwc
          obtain ⟨base, hbase⟩ : ∃ b : Int, (if sum = lst then 0 else 14) = b := ⟨_, rfl⟩
          rw [hbase]
          have hwant : provesOf n cs p es = if ovS cs es cs.length = true then 15 else base := by
            rw [HFIN.out, ← hbase]
            have h1 := ovS_all cs es
            by_cases h2 : ovS cs es cs.length = true
            · rw [if_pos h2, if_pos (h1.2 h2)]
            · rw [if_neg h2, if_neg (fun h => h2 (h1.1 h))]
              by_cases h3 : sum = lst
              · rw [if_pos h3, if_neg (fun h => h h3)]
              · rw [if_neg h3, if_pos h3]
          have hpl9 : p.length ≤ 1000000 := by
            have h1 := (mem_plansS n1 HCH.out.ok p).1 HPM.out
            have h2 := (Ext.full n6 HCH.out.ok h1.1).1
            omega
          have hchd : ∀ W, Below W6.heap.size W6 W → Calls Tryz.prog 51 #[.agg #[.int .i64 n, .slice q cs.length c], .slice q2 es.length c2] W fun e w' => ∃ q7 c7, e = .returned (.tuple #[.slice q7 cs.length c7, .int .i64 0]) ∧ RowV w' q7 (flatI (chargeS cs es)) ∧ Below W.heap.size W w' := by
            intro W hb
            have h := Charged_any n q c cs q2 c2 gv es W (HRT.out.below (Nat.le_refl _) hb) HCAP.out (HDS6.out.below (Nat.le_refl _) hb) (by omega) HGLE.out
            rw [Int.toNat_natCast, HCHG.out] at h
            unfold hillV at h
            refine h.mono ?_
            rintro e w' ⟨q7, c7, rfl, h1, _, _, h2⟩
            exact ⟨q7, c7, by rw [HCL.out], h1, h2⟩
          have hsm : ∀ W q7 c7, RowV W q7 (flatI (chargeS cs es)) → RowV W qc (flatI (chargeS cs es)) → Calls Tryz.prog 20 #[.slice q7 cs.length c7, .slice qc cs.length cs.length] W fun e w' => e = .returned (.bool true) ∧ Below W.heap.size W w' := by
            intro W q7 c7 h1 h2
            have hl9 : (chargeS cs es).length ≤ 1000000 := by rw [HCL.out]; omega
            have h := same_any q7 qc c7 cs.length (chargeS cs es) (chargeS cs es) W h1 h2 hl9 hl9
            rw [HCL.out, beq_self_eq_true] at h
            exact h
          have hprv : ∀ W, Below W6.heap.size W6 W → Calls Tryz.prog 21 #[.agg #[.int .i64 n, .slice q cs.length c], .slice qp p.length cp, .slice q2 es.length c2] W fun e w' => e = .returned (.int .i64 (if ovS cs es cs.length = true then 15 else base)) ∧ Below W.heap.size W w' := by
            intro W hb
            have h := Proves_any n q c cs qp cp p q2 c2 gv es W (HRT.out.below (Nat.le_refl _) hb) HCAP.out (HPR6.out.below (Nat.le_refl _) hb) hpl9 (HDS6.out.below (Nat.le_refl _) hb) (by omega) HGLE.out
            rw [Int.toNat_natCast, hwant] at h
            unfold hillV at h
            exact h
          have HCHD := Lib.hid hchd
          have HSM := Lib.hid hsm
          have HPRV := Lib.hid hprv
          have HBF := Lib.hid (HD2.out.bel.on HB6.out)
          clear hbase hwc hwant hchd hsm hprv
          go_wp2
          go_loopw [27, 134] (fun v i wl => ∃ t : Nat, t ≤ cs.length ∧ i = .int .i64 t ∧ v = .int .i64 (if ovS cs es t = true then 15 else base) ∧ Below W6.heap.size W6 wl) (fun _ i _ => cs.length - (intOf i).toNat)
          case atStart => exact ⟨0, Nat.zero_le _, rfl, rfl, Below.refl _ _⟩
          case round =>
            obtain ⟨t, ht, rfl, rfl, hbl⟩ := hrel
            by_cases htl : t < cs.length
            · obtain ⟨b3, off3, rfl, hb3, g1, g2, g3⟩ := rowT_at HRT.out htl (Nat.le_refl _) hbl
              obtain ⟨b4, off4, rfl, hb4, g4⟩ := rowI_at HRC.out (k := t) (by rw [HCL.out]; exact htl) (Nat.le_refl _) hbl
              have HST := Lib.hid (ovS_step cs es t)
              generalize cs.getD t (0, 0, 0) = ch at g1 g2 g3 HST
              generalize (chargeS cs es).getD t 0 = cg at g4 HST
              generalize ovS cs es t = ov at HST ⊢
              obtain ⟨h1, h2, h3⟩ := ch
              dsimp only at g1 g2 g3 HST
              have hti : (t : Int) < (cs.length : Int) := by omega
              have hz6 := hbl.size
              go_upto_region 28 with fail
              obtain ⟨WA, hWA⟩ : ∃ WA, wr.alloc (.cells #[.int .i64 h1, .int .i64 h2, .int .i64 h3] 49) = WA := ⟨_, rfl⟩
              have hbA : Below wr.heap.size wr WA := by rw [← hWA]; exact (Below.refl _ _).alloc (Nat.le_refl _) _
              have hblA : Below W6.heap.size W6 WA := hbl.on hbA
              have s2 : WA.cell? ⟨wr.heap.size, 2, none⟩ = some (.int .i64 h3) := by rw [← hWA]; simp
              have s4 := (hbA.cell (p := ⟨b4, off4 + t, none⟩) (by show b4 < wr.heap.size; omega)).trans g4
              rw [hWA]
              clear hWA hbA g1 g2 g3 g4
              go_region
              by_cases hov : h3 < cg
              · go_wp2
                go_roundw
                case rel => exact ⟨t + 1, htl, by go_num, by rw [HST.out, decide_eq_true hov, Bool.or_true, if_pos rfl], hblA.drew⟩
                case measure => simp [intOf]; omega
              · go_wp2
                go_roundw
                case rel => exact ⟨t + 1, htl, by go_num, by rw [HST.out, decide_eq_false hov, Bool.or_false], hblA.drew⟩
                case measure => simp [intOf]; omega
            · obtain rfl : t = cs.length := by omega
              have hrc7 := Lib.hid (HRC.out.below (Nat.le_refl _) hbl)
              obtain ⟨⟨p0, p1, p2, p3, p4⟩, _, _⟩ := ((HD2.out.go HB6.out).go hbl).at
              generalize (if ovS cs es cs.length = true then (15 : Int) else base) = wnt at HPRV ⊢
              clear x0 x1 x2 x3 x4
              go_wp2_with (first
                | (go_at_call 51; refine (HCHD.out _ hbl).mono ?_; rintro e w7 ⟨q7, c7, rfl, hr7, hb7⟩; have hrc8 := hrc7.out.below (Nat.le_refl _) hb7; have hbl7 := hbl.on hb7)
                | (go_at_call 20; refine (HSM.out _ q7 c7 hr7 hrc8).mono ?_; rintro e w8 ⟨rfl, hb8⟩; have hbl8 := hbl7.on hb8; obtain ⟨⟨o0, o1, o2, o3, o4⟩, _, _⟩ := ((HD2.out.go HB6.out).go hbl8).at)
                | (go_at_call 21; refine (HPRV.out _ hbl8).mono ?_; rintro e w9 ⟨rfl, hb9⟩; have hbl9 := hbl8.on hb9)
                | (go_at_call 18; refine (HWK.out _).mono ?_; rintro e wz ⟨rfl, hbz⟩; have hblz := hbl9.on hbz))
              go_ret
              exact ⟨rfl, HBF.out.on hblz⟩
end Go.Proofs.YtlnpibboemphnaaGreat.drn

