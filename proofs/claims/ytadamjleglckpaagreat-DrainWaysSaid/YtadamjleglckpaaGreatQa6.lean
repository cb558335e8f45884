/- Package drain, the walks: slices.MinFunc at plans, cheapestOf, leastOf, Count. -/
import Derived.Test.YtadamjleglckpaaGreatQa5
import Derived.Lib.MinMax
import Derived.Test.YtadamjleglckpaaGreatQa1
import Derived.Laws.EntriesVeiled
import Derived.Test.YtadamjleglckpaaGreatQa2
import Derived.Test.YtadamjleglckpaaGreatQa3
import Derived.RegionTactic

namespace Go.Proofs.YtadamjleglckpaaGreat.drn
open Go.RowKit
set_option linter.unusedSimpArgs false
set_option linter.unusedVariables false

/-- plans of a hill -/
def GoodL (cs : List Ch) (ls : List (List Int)) : Prop := ∀ l ∈ ls, InR cs l ∧ l.length ≤ 1000
theorem goodL_plans {n : Nat} {cs : List Ch} (hc : Chs n cs) : GoodL cs (plansS n cs) := fun l hl => by
  have := plansS_in hc l hl
  exact ⟨this.1, by omega⟩
theorem GoodL.sub {cs : List Ch} {ls ks : List (List Int)} (h : GoodL cs ls) (hs : ∀ k ∈ ks, k ∈ ls) : GoodL cs ks := fun k hk => h k (hs k hk)

set_option maxRecDepth 100000 in
set_option maxHeartbeats 1000000 in
theorem minL_any (n B : Nat) (q : Option Addr) (cap : Nat) (cs : List Ch) (lo : Nat) (qp : Option Addr) (cp : Nat) (vs : List Value) (p : List Int) (ps : List (List Int)) (w : World) (hc : Chs n cs) (hB : HillAt w B n q cap cs)
    (hls : ListsAt w lo qp vs (p :: ps)) (hg : GoodL cs (p :: ps)) (hl : (p :: ps).length ≤ 100000) :
    Calls Tryz.prog 129 #[.slice qp (p :: ps).length cp, .func (.func 130) #[] #[.pointer (some ⟨B, 0, none⟩)]] w fun e w' =>
      ∃ v, e = .returned v ∧ ListAt w' lo v (minG (fun p => (costS cs p).toNat) p ps) ∧ Below w.heap.size w w' := by
  obtain ⟨ys, hys⟩ : ∃ ys, p :: ps = ys := ⟨_, rfl⟩
  have hlen : ys.length = ps.length + 1 := by rw [← hys]; rfl
  have h0 : ys.getD 0 [] = p := by rw [← hys]; rfl
  have hdr : ys.drop 1 = ps := by rw [← hys]; rfl
  rw [hys] at hls hg hl ⊢
  have hvl := hls.2.1.len
  obtain ⟨v0, hv0, hl0⟩ := InL.get 0 hls.2.1 (by omega)
  have hat := fun W v1 v2 l1 l2 hb k1 k2 m1 m2 => cheapest1_any n B q cap cs v1 v2 l1 l2 lo W hc (hB.below (Nat.le_refl _) hb) k1 k2 (hg l1 m1).1 (hg l2 m2).1 (hg l1 m1).2 (hg l2 m2).2
  have hrow := hls.1
  have hinl := hls.2.1
  obtain ⟨b, off, rfl, hb, hcell⟩ := hrow.here (k := 0) (by omega)
  have h1 := hcell 0 v0 hv0
  rw [Nat.add_zero] at h1
  rw [h0] at hl0
  have HAT := Lib.hid hat
  have HDR := Lib.hid hdr
  have HCELL := Lib.hid hcell
  have HINL := Lib.hid hinl
  have HVL := Lib.hid hvl
  have HL0 := Lib.hid hl0
  have hpm : p ∈ ys := by rw [← hys]; simp
  have HPM := Lib.hid hpm
  have hpos : (0 : Int) < (ys.length : Int) := by omega
  have hpos1 : ¬ (ys.length : Int) < 1 := by omega
  clear hat hys hlen h0 hdr hrow hinl hcell hvl hl0 hv0 hpm hls hB hg
  go_enter Tryz.func129, Tryz.ntmps129
  go_wp2
  clear hpos1 hpos h1
  go_loopw [5, 6] (fun m i wr => ∃ (k : Nat) (l : List Int), 1 ≤ k ∧ k ≤ ys.length ∧ i = .int .i64 k ∧ ListAt wr lo m l ∧ l ∈ ys ∧ minG (fun p => (costS cs p).toNat) l (ys.drop k) = minG (fun p => (costS cs p).toNat) p ps ∧ Below w.heap.size w wr) (fun _ i _ => ys.length - (intOf i).toNat)
  case atStart => exact ⟨1, p, Nat.le_refl _, by have := HPM.out; exact List.length_pos_of_mem this, rfl, HL0.out, HPM.out, by rw [HDR.out], Below.refl _ _⟩
  case round =>
    obtain ⟨k, l, hk1, hk, rfl, hat, hm, hmin, hbel⟩ := hrel
    by_cases hlt : k < ys.length
    · obtain ⟨v2, hv2, hl2⟩ := InL.get k HINL.out hlt
      have h2 := (hbel.cell (p := ⟨b, off + k, none⟩) hb).trans (HCELL.out k v2 hv2)
      have hst : ys.drop k = ys.getD k [] :: ys.drop (k + 1) := by rw [List.drop_eq_getElem_cons hlt, getD_eq ys k [] hlt]
      rw [hst] at hmin
      have hsm := getD_mem ys k [] hlt
      generalize ys.getD k [] = l2 at hl2 hmin hsm
      have hcc := HAT.out wr v2 u5 l2 l hbel (hl2.below (Nat.le_refl _) hbel) hat hsm hm
      have hlk : (k : Int) < (ys.length : Int) := by omega
      have HMIN := Lib.hid hmin
      have HCC := Lib.hid hcc
      have HM := Lib.hid hm
      have HSM := Lib.hid hsm
      have HL2 := Lib.hid hl2
      have HA := Lib.hid hat
      clear hmin hcc hst hm hsm hv2 hl2 hat
      go_upto_region 8 with (go_at_call 130; refine HCC.out.mono ?_; rintro e w2 ⟨⟨c, rfl, hcI⟩, hb2⟩; have HCI := Lib.hid hcI; clear hcI; have h3 := (hb2.cell (p := ⟨b, off + k, none⟩) (Nat.lt_of_lt_of_le hb hbel.size)).trans h2)
      · have hneg : c < 0 := by assumption
        have hlf := HCI.out.1 hneg
        have HLF := Lib.hid hlf
        have hbz : b < w2.heap.size := Nat.lt_of_lt_of_le hb (hbel.on hb2).size
        clear hlf
        go_wp2
        go_roundw
        case rel => exact ⟨k + 1, l2, by omega, hlt, by go_num, HL2.out.below (Nat.le_refl _) (hbel.on hb2), HSM.out, by have h := HMIN.out; rw [minG, if_pos HLF.out] at h; exact h, hbel.on hb2⟩
        case measure => simp [intOf]; omega
      · have hneg : ¬ c < 0 := by first | assumption | omega
        have hlf : ¬ (costS cs l2).toNat < (costS cs l).toNat := fun h => hneg (HCI.out.2 h)
        refine ⟨⟨k + 1, l, by omega, hlt, by go_num, HA.out.below (Nat.le_refl _) hb2, HM.out, by have h := HMIN.out; rw [minG, if_neg hlf] at h; exact h, hbel.on hb2⟩, by simp [intOf]; omega⟩
    · obtain rfl : k = ys.length := by omega
      have hfin : l = minG (fun p => (costS cs p).toNat) p ps := by rw [← hmin, List.drop_length]; rfl
      have HA := Lib.hid hat
      have HF := Lib.hid hfin
      clear hat hfin hmin hm
      go_wp2
      go_ret
      exact ⟨_, rfl, by rw [← HF.out]; exact HA.out, hbel⟩

set_option maxRecDepth 100000 in
theorem cheapestOf_any (n : Nat) (q : Option Addr) (cap : Nat) (cs : List Ch) (lo : Nat) (qp : Option Addr) (cp : Nat) (vs : List Value) (p : List Int) (ps : List (List Int)) (w : World) (hc : Chs n cs) (hr : RowV w q (flatT cs))
    (hls : ListsAt w lo qp vs (p :: ps)) (hg : GoodL cs (p :: ps)) (hl : (p :: ps).length ≤ 100000) :
    Calls Tryz.prog 98 #[hillV n q cs.length cap, .slice qp (p :: ps).length cp] w fun e w' =>
      ∃ v, e = .returned v ∧ ListAt w' lo v (minG (fun p => (costS cs p).toNat) p ps) ∧ Below w.heap.size w w' := by
  have hb0 : Below w.heap.size w (w.alloc (.cells #[.int .i64 n, .slice q cs.length cap] 24)) := (Below.refl _ _).alloc (Nat.le_refl _) _
  have hat : HillAt (w.alloc (.cells #[.int .i64 n, .slice q cs.length cap] 24)) w.heap.size n q cap cs := ⟨by simp, by simp, by simp, hr.below (Nat.le_refl _) hb0⟩
  have hm := minL_any n w.heap.size q cap cs lo qp cp vs p ps _ hc hat (hls.below (Nat.le_refl _) hb0) hg hl
  unfold hillV
  have HM := Lib.hid hm
  have HB := Lib.hid hb0
  obtain ⟨L, hL⟩ : ∃ L, (p :: ps).length = L := ⟨_, rfl⟩
  rw [hL] at HM ⊢
  clear hm hb0 hat hr hls hg hl hL
  go_enter Tryz.func98, Tryz.ntmps98
  go_wp2_with (go_at_call 129; refine HM.out.mono ?_; rintro e w1 ⟨v1, rfl, hl1, hb1⟩)
  go_ret
  exact ⟨v1, rfl, hl1, HB.out.on hb1⟩

set_option maxRecDepth 100000 in
theorem leastOf_any (n : Nat) (q : Option Addr) (cap : Nat) (cs : List Ch) (lo : Nat) (qp : Option Addr) (cp : Nat) (vs : List Value) (p : List Int) (ps : List (List Int)) (w : World) (hc : Chs n cs) (hr : RowV w q (flatT cs))
    (hls : ListsAt w lo qp vs (p :: ps)) (hg : GoodL cs (p :: ps)) (hl : (p :: ps).length ≤ 100000) :
    Calls Tryz.prog 86 #[hillV n q cs.length cap, .slice qp (p :: ps).length cp] w fun e w' => e = .returned (.int .i64 (leastS cs (p :: ps))) ∧ Below w.heap.size w w' := by
  have hans : leastS cs (p :: ps) = costS cs (minG (fun p => (costS cs p).toNat) p ps) := by rw [leastS, cheapS, minG_first]
  have hmg : minG (fun p => (costS cs p).toNat) p ps ∈ p :: ps := by
    rcases minG_mem (fun p => (costS cs p).toNat) ps p with h | h
    · rw [h]; simp
    · simp [h]
  obtain ⟨hgi, hgl⟩ := hg _ hmg
  have hb0 : Below w.heap.size w (w.alloc (.cells #[.int .i64 n, .slice q cs.length cap] 24)) := (Below.refl _ _).alloc (Nat.le_refl _) _
  have hm := cheapestOf_any n q cap cs lo qp cp vs p ps (w.alloc (.cells #[.int .i64 n, .slice q cs.length cap] 24)).drew hc (hr.below (Nat.le_refl _) hb0.drew) (hls.below (Nat.le_refl _) hb0.drew) hg hl
  generalize minG (fun p => (costS cs p).toNat) p ps = mp at hans hm hgi hgl
  have hco := fun W (qq : Option Addr) kk hb hrr => costOf_any n q cap cs qq kk mp W hc (hr.below (Nat.le_refl _) hb) hrr hgi hgl
  unfold hillV at *
  rw [hans]
  have HM := Lib.hid hm
  have HB := Lib.hid hb0
  have HCO := Lib.hid hco
  obtain ⟨L, hL⟩ : ∃ L, (p :: ps).length = L := ⟨_, rfl⟩
  rw [hL] at HM ⊢
  clear hm hb0 hr hls hg hl hL hco hans hmg
  go_enter Tryz.func86, Tryz.ntmps86
  go_wp2
  obtain ⟨c0, c1⟩ : (w.alloc (.cells #[.int .i64 n, .slice q cs.length cap] 24)).cell? ⟨w.heap.size, 0, none⟩ = some (.int .i64 n) ∧ (w.alloc (.cells #[.int .i64 n, .slice q cs.length cap] 24)).cell? ⟨w.heap.size, 1, none⟩ = some (.slice q cs.length cap) := ⟨by simp, by simp⟩
  have hz0 : w.heap.size < (w.alloc (.cells #[.int .i64 n, .slice q cs.length cap] 24)).heap.size := by simp
  obtain ⟨W0, hW0⟩ : ∃ W0, w.alloc (.cells #[.int .i64 n, .slice q cs.length cap] 24) = W0 := ⟨_, rfl⟩
  rw [hW0] at c0 c1 hz0 HB HM ⊢
  clear hW0
  go_region_held3 (fun W => W.cell? ⟨w.heap.size, 0, none⟩ = some (.int .i64 n) ∧ W.cell? ⟨w.heap.size, 1, none⟩ = some (.slice q cs.length cap)) (first | exact ⟨c0, c1⟩ | exact ⟨d0, d1⟩ | exact ⟨e0, e1⟩ | go_keep)
    (first
    | (go_at_call 98; refine HM.out.mono ?_; rintro e w1 ⟨v1, rfl, ⟨q1, cc1, rfl, hr1, _, _⟩, hb1'⟩; have hb1 : Below W0.heap.size W0 w1 := (((Below.refl _ _).drew).on hb1'); have d0 := (hb1.cell (p := ⟨w.heap.size, 0, none⟩) hz0).trans c0; have d1 := (hb1.cell (p := ⟨w.heap.size, 1, none⟩) hz0).trans c1)
    | (go_at_call 87; have hcc := HCO.out w1 q1 cc1 (HB.out.on hb1) hr1; (with_reducible refine hcc.mono ?_); rintro e w2 ⟨rfl, hb2⟩; have e0 := (hb2.cell (p := ⟨w.heap.size, 0, none⟩) (Nat.lt_of_lt_of_le hz0 hb1.size)).trans d0; have e1 := (hb2.cell (p := ⟨w.heap.size, 1, none⟩) (Nat.lt_of_lt_of_le hz0 hb1.size)).trans d1)
    | fail)
  go_wp2
  go_ret
  exact ⟨rfl, (HB.out.on hb1).on hb2⟩

/-- a number, and an error -/
def RetK (w : World) (k err : Int) (e : Ending) (w' : World) : Prop := e = .returned (.tuple #[.int .i64 k, .int .i64 err]) ∧ Below w.heap.size w w'

set_option maxRecDepth 100000 in
theorem Count_any (n : Int) (q : Option Addr) (cap : Nat) (cs : List Ch) (w : World) (hr : RowV w q (flatT cs)) (hcap : cs.length ≤ cap) :
    Calls Tryz.prog 43 #[hillV n q cs.length cap] w (RetK w (countOf n.toNat cs).1 (countOf n.toNat cs).2) := by
  have hb0 : Below w.heap.size w (w.alloc (.cells #[.int .i64 n, .slice q cs.length cap] 24)) := (Below.refl _ _).alloc (Nat.le_refl _) _
  have c1 := Check_any n q cap cs _ (hr.below (Nat.le_refl _) hb0) hcap
  have HR := Lib.hid hr
  have HB := Lib.hid hb0
  by_cases h0 : errD n cs = 0
  · obtain ⟨m, rfl, hchs⟩ := chs_of h0
    have hans : countOf ((m : Int).toNat) cs = (((plansS m cs).length : Int), 0) := by
      unfold countOf
      rw [Int.toNat_natCast, if_neg (by rw [h0]; simp)]
    rw [hans]
    have hpl := fun W hb => plansOf_any m q cap cs W hchs (hr.below (Nat.le_refl _) hb)
    unfold hillV at *
    rw [h0] at c1
    have C1 := Lib.hid c1
    have HPL := Lib.hid hpl
    clear hans h0 hr hb0 hchs c1 hpl
    go_enter Tryz.func43, Tryz.ntmps43
    go_wp2_with (first
      | (go_at_call 18; refine C1.out.mono ?_; rintro e w1 ⟨rfl, hb1⟩; obtain ⟨hc1, hf1⟩ := bcell hb1; have hac1 : Below w.heap.size w w1 := HB.out.on hb1; have hz0 : w.heap.size < w1.heap.size := (by have := hb1.size; simp at this; omega))
      | (go_at_call 100; refine (HPL.out w1 hac1).mono ?_; rintro e w2 ⟨q2, c2, vs, rfl, hvl, hnil, hls, hb2, _⟩))
    go_ret2
    exact ⟨rfl, hac1.on hb2⟩
  · have hans : countOf n.toNat cs = (0, errD n cs) := by
      unfold countOf
      rw [errD_nat, if_pos h0]
    rw [hans]
    have hb : (errD n cs != 0) = true := by simpa using h0
    unfold hillV at *
    have C1 := Lib.hid c1
    clear hans h0 hr hb0 c1
    go_enter Tryz.func43, Tryz.ntmps43
    go_wp2_with (go_at_call 18; refine C1.out.mono ?_; rintro e w1 ⟨rfl, hb1⟩)
    go_ret2
    exact ⟨rfl, HB.out.on hb1⟩
end Go.Proofs.YtadamjleglckpaaGreat.drn

/- Package drain, the walks: somePlans, Cheapest, Least. -/
namespace Go.Proofs.YtadamjleglckpaaGreat.drn
open Go.RowKit
set_option linter.unusedSimpArgs false
set_option linter.unusedVariables false

/-- lists that a call has made, and an error -/
def RetLE (w : World) (ls : List (List Int)) (err : Int) (e : Ending) (w' : World) : Prop :=
  ∃ q c vs, e = .returned (.tuple #[.slice q ls.length c, .int .i64 err]) ∧ vs.length = ls.length ∧ (ls = [] → q = none ∧ c = 0) ∧ ListsAt w' w.heap.size q vs ls ∧ Below w.heap.size w w'
theorem listsAt_nil (w : World) (lo : Nat) : ListsAt w lo none [] [] := ⟨.inl rfl, trivial, by simp⟩
def someS (n : Nat) (cs : List Ch) : List (List Int) × Int := if errD n cs ≠ 0 then ([], errD n cs) else if (plansS n cs).length = 0 then ([], 12) else (plansS n cs, 0)

set_option maxRecDepth 100000 in
theorem somePlans_any (n : Int) (q : Option Addr) (cap : Nat) (cs : List Ch) (w : World) (hr : RowV w q (flatT cs)) (hcap : cs.length ≤ cap) :
    Calls Tryz.prog 83 #[hillV n q cs.length cap] w (RetLE w (someS n.toNat cs).1 (someS n.toNat cs).2) := by
  have hb0 : Below w.heap.size w (w.alloc (.cells #[.int .i64 n, .slice q cs.length cap] 24)) := (Below.refl _ _).alloc (Nat.le_refl _) _
  have c1 := Check_any n q cap cs _ (hr.below (Nat.le_refl _) hb0) hcap
  have HR := Lib.hid hr
  have HB := Lib.hid hb0
  by_cases h0 : errD n cs = 0
  · obtain ⟨m, rfl, hchs⟩ := chs_of h0
    have hans : someS ((m : Int).toNat) cs = if (plansS m cs).length = 0 then ([], 12) else (plansS m cs, 0) := by
      unfold someS
      rw [Int.toNat_natCast, if_neg (by rw [h0]; simp)]
    have hpl := fun W hb => plansOf_any m q cap cs W hchs (hr.below (Nat.le_refl _) hb)
    generalize plansS m cs = ls at hans hpl
    unfold hillV at *
    rw [h0] at c1
    have C1 := Lib.hid c1
    have HPL := Lib.hid hpl
    by_cases hls : ls.length = 0
    · rw [hans, if_pos hls]
      have hlb : ((ls.length : Int) == 0) = true := by simp [hls]
      clear hans h0 hr hb0 hchs c1 hpl hls
      go_enter Tryz.func83, Tryz.ntmps83
      go_wp2_with (first
        | (go_at_call 18; refine C1.out.mono ?_; rintro e w1 ⟨rfl, hb1⟩; obtain ⟨hc1, hf1⟩ := bcell hb1; have hac1 : Below w.heap.size w w1 := HB.out.on hb1; have hz0 : w.heap.size < w1.heap.size := (by have := hb1.size; simp at this; omega))
        | (go_at_call 100; refine (HPL.out w1 hac1).mono ?_; rintro e w2 ⟨q2, c2, vs, rfl, hvl, hnil, hlsA, hb2, _⟩))
      go_ret2
      exact ⟨none, 0, [], rfl, rfl, fun _ => ⟨rfl, rfl⟩, listsAt_nil _ _, hac1.on hb2⟩
    · rw [hans, if_neg hls]
      have hlb : ((ls.length : Int) == 0) = false := beq_eq_false_iff_ne.2 (by omega)
      clear hans h0 hr hb0 hchs c1 hpl hls
      go_enter Tryz.func83, Tryz.ntmps83
      go_wp2_with (first
        | (go_at_call 18; refine C1.out.mono ?_; rintro e w1 ⟨rfl, hb1⟩; obtain ⟨hc1, hf1⟩ := bcell hb1; have hac1 : Below w.heap.size w w1 := HB.out.on hb1; have hz0 : w.heap.size < w1.heap.size := (by have := hb1.size; simp at this; omega))
        | (go_at_call 100; refine (HPL.out w1 hac1).mono ?_; rintro e w2 ⟨q2, c2, vs, rfl, hvl, hnil, hlsA, hb2, _⟩))
      go_ret2
      exact ⟨q2, c2, vs, rfl, hvl, hnil, hlsA.lower hac1.size, hac1.on hb2⟩
  · have hans : someS n.toNat cs = ([], errD n cs) := by
      unfold someS
      rw [errD_nat, if_pos h0]
    rw [hans]
    have hb : (errD n cs != 0) = true := by simpa using h0
    unfold hillV at *
    have C1 := Lib.hid c1
    clear hans h0 hr hb0 c1
    go_enter Tryz.func83, Tryz.ntmps83
    go_wp2_with (go_at_call 18; refine C1.out.mono ?_; rintro e w1 ⟨rfl, hb1⟩)
    go_ret2
    exact ⟨none, 0, [], rfl, rfl, fun _ => ⟨rfl, rfl⟩, listsAt_nil _ _, HB.out.on hb1⟩

/-- what somePlans answers: an error, or plans -/
theorem someS_cases (n : Int) (cs : List Ch) : ((someS n.toNat cs).1 = [] ∧ (someS n.toNat cs).2 ≠ 0) ∨ ∃ (m : Nat) (p : List Int) (ps : List (List Int)), n = m ∧ Chs m cs ∧ plansS m cs = p :: ps ∧ someS n.toNat cs = (p :: ps, 0) := by
  by_cases h0 : errD n cs = 0
  · obtain ⟨m, rfl, hchs⟩ := chs_of h0
    have hans : someS ((m : Int).toNat) cs = if (plansS m cs).length = 0 then ([], 12) else (plansS m cs, 0) := by
      unfold someS
      rw [Int.toNat_natCast, if_neg (by rw [h0]; simp)]
    by_cases hls : (plansS m cs).length = 0
    · rw [hans, if_pos hls]
      exact .inl ⟨rfl, by decide⟩
    · rw [hans, if_neg hls]
      cases hp : plansS m cs with
      | nil => rw [hp] at hls; simp at hls
      | cons p ps => exact .inr ⟨m, p, ps, rfl, hchs, hp, rfl⟩
  · have hans : someS n.toNat cs = ([], errD n cs) := by
      unfold someS
      rw [errD_nat, if_pos h0]
    rw [hans]
    exact .inl ⟨rfl, h0⟩
theorem cheapest_some (n : Nat) (cs : List Ch) : cheapestOf n cs = match (someS n cs).1 with
    | [] => ([], (someS n cs).2)
    | p :: ps => (minG (fun p => (costS cs p).toNat) p ps, 0) := by
  unfold cheapestOf someS
  by_cases h0 : errD n cs = 0
  · rw [if_neg (fun h => h h0), if_neg (fun h => h h0)]
    generalize plansS n cs = ls
    cases ls with
    | nil => rfl
    | cons p ps => rw [cheapS, minG_first]; rfl
  · rw [if_pos h0, if_pos h0]
theorem least_some (n : Nat) (cs : List Ch) : leastOf n cs = match (someS n cs).1 with
    | [] => (0, (someS n cs).2)
    | p :: ps => (leastS cs (p :: ps), 0) := by
  by_cases h0 : errD n cs = 0
  · have e1 : leastOf n cs = if (plansS n cs).length = 0 then (0, 12) else (leastS cs (plansS n cs), 0) := by rw [leastOf, if_neg (fun h => h h0)]
    have e2 : someS n cs = if (plansS n cs).length = 0 then ([], 12) else (plansS n cs, 0) := by rw [someS, if_neg (fun h => h h0)]
    rw [e1, e2]
    generalize plansS n cs = ls
    cases ls with
    | nil => rfl
    | cons p ps => rfl
  · have e1 : leastOf n cs = (0, errD n cs) := by rw [leastOf, if_pos h0]
    have e2 : someS n cs = ([], errD n cs) := by rw [someS, if_pos h0]
    rw [e1, e2]

set_option maxRecDepth 100000 in
theorem Cheapest_any (n : Int) (q : Option Addr) (cap : Nat) (cs : List Ch) (w : World) (hr : RowV w q (flatT cs)) (hcap : cs.length ≤ cap) :
    Calls Tryz.prog 41 #[hillV n q cs.length cap] w (RetI w (cheapestOf n.toNat cs).1 (cheapestOf n.toNat cs).2) := by
  have hb0 : Below w.heap.size w (w.alloc (.cells #[.int .i64 n, .slice q cs.length cap] 24)) := (Below.refl _ _).alloc (Nat.le_refl _) _
  have c1 := somePlans_any n q cap cs _ (hr.below (Nat.le_refl _) hb0) hcap
  have HB := Lib.hid hb0
  rw [cheapest_some]
  rcases someS_cases n cs with ⟨h1, h2⟩ | ⟨m, p, ps, rfl, hchs, hp, h1⟩
  · rw [h1] at c1 ⊢
    have hb : ((someS n.toNat cs).2 != 0) = true := by simpa using h2
    generalize (someS n.toNat cs).2 = err at c1 hb h2
    unfold hillV at *
    have C1 := Lib.hid c1
    clear h1 h2 hr hb0 c1
    go_enter Tryz.func41, Tryz.ntmps41
    go_wp2_with (go_at_call 83; refine C1.out.mono ?_; rintro e w1 ⟨q1, cc1, vs1, rfl, hvl, hnil, hls, hb1⟩)
    go_ret2
    exact ⟨none, 0, rfl, .inl rfl, fun _ => rfl, by simp, HB.out.on hb1⟩
  · have hgood : GoodL cs (p :: ps) := by rw [← hp]; exact goodL_plans hchs
    have hlen : (p :: ps).length ≤ 100000 := by rw [← hp]; have := plansS_len hchs; omega
    rw [h1] at c1 ⊢
    have hch := fun W qp cp vs lo hb hls => cheapestOf_any m q cap cs lo qp cp vs p ps W hchs (hr.below (Nat.le_refl _) hb) hls hgood hlen
    unfold hillV at *
    have C1 := Lib.hid c1
    have HCH := Lib.hid hch
    obtain ⟨L, hL⟩ : ∃ L, (p :: ps).length = L := ⟨_, rfl⟩
    show Calls _ _ _ _ (RetI w (minG (fun p => (costS cs p).toNat) p ps) 0)
    generalize minG (fun p => (costS cs p).toNat) p ps = mp at HCH ⊢
    unfold RetLE at C1
    rw [hL] at C1 HCH
    clear h1 hr hb0 c1 hch hp hgood hlen hL
    go_enter Tryz.func41, Tryz.ntmps41
    go_wp2_with (first
      | (go_at_call 83; refine C1.out.mono ?_; rintro e w1 ⟨q1, cc1, vs1, rfl, hvl, hnil, hls, hb1⟩; have HVL := Lib.hid hvl; clear hvl; obtain ⟨hc1, hf1⟩ := bcell hb1; have hac1 : Below w.heap.size w w1 := HB.out.on hb1; have hz0 : w.heap.size < w1.heap.size := (by have := hb1.size; simp at this; omega))
      | (go_at_call 98; refine (HCH.out w1 q1 cc1 vs1 _ hac1 hls).mono ?_; rintro e w2 ⟨v2, rfl, ⟨q2, cc2, rfl, hr2, hq2, hqb2⟩, hb2⟩))
    go_ret2
    exact ⟨q2, cc2, rfl, hr2, hq2, fun a ha => ⟨by have := (hqb2 a ha).1; simp at this; omega, (hqb2 a ha).2⟩, hac1.on hb2⟩

set_option maxRecDepth 100000 in
theorem Least_any (n : Int) (q : Option Addr) (cap : Nat) (cs : List Ch) (w : World) (hr : RowV w q (flatT cs)) (hcap : cs.length ≤ cap) :
    Calls Tryz.prog 32 #[hillV n q cs.length cap] w (RetK w (leastOf n.toNat cs).1 (leastOf n.toNat cs).2) := by
  have hb0 : Below w.heap.size w (w.alloc (.cells #[.int .i64 n, .slice q cs.length cap] 24)) := (Below.refl _ _).alloc (Nat.le_refl _) _
  have c1 := somePlans_any n q cap cs _ (hr.below (Nat.le_refl _) hb0) hcap
  have HB := Lib.hid hb0
  rw [least_some]
  rcases someS_cases n cs with ⟨h1, h2⟩ | ⟨m, p, ps, rfl, hchs, hp, h1⟩
  · rw [h1] at c1 ⊢
    have hb : ((someS n.toNat cs).2 != 0) = true := by simpa using h2
    generalize (someS n.toNat cs).2 = err at c1 hb h2
    unfold hillV at *
    have C1 := Lib.hid c1
    clear h1 h2 hr hb0 c1
    go_enter Tryz.func32, Tryz.ntmps32
    go_wp2_with (go_at_call 83; refine C1.out.mono ?_; rintro e w1 ⟨q1, cc1, vs1, rfl, hvl, hnil, hls, hb1⟩)
    go_ret2
    exact ⟨rfl, HB.out.on hb1⟩
  · have hgood : GoodL cs (p :: ps) := by rw [← hp]; exact goodL_plans hchs
    have hlen : (p :: ps).length ≤ 100000 := by rw [← hp]; have := plansS_len hchs; omega
    rw [h1] at c1 ⊢
    have hch := fun W qp cp vs lo hb hls => leastOf_any m q cap cs lo qp cp vs p ps W hchs (hr.below (Nat.le_refl _) hb) hls hgood hlen
    unfold hillV at *
    have C1 := Lib.hid c1
    have HCH := Lib.hid hch
    obtain ⟨L, hL⟩ : ∃ L, (p :: ps).length = L := ⟨_, rfl⟩
    show Calls _ _ _ _ (RetK w (leastS cs (p :: ps)) 0)
    generalize leastS cs (p :: ps) = mp at HCH ⊢
    unfold RetLE at C1
    rw [hL] at C1 HCH
    clear h1 hr hb0 c1 hch hp hgood hlen hL
    go_enter Tryz.func32, Tryz.ntmps32
    go_wp2_with (first
      | (go_at_call 83; refine C1.out.mono ?_; rintro e w1 ⟨q1, cc1, vs1, rfl, hvl, hnil, hls, hb1⟩; have HVL := Lib.hid hvl; clear hvl; obtain ⟨hc1, hf1⟩ := bcell hb1; have hac1 : Below w.heap.size w w1 := HB.out.on hb1; have hz0 : w.heap.size < w1.heap.size := (by have := hb1.size; simp at this; omega))
      | (go_at_call 86; refine (HCH.out w1 q1 cc1 vs1 _ hac1 hls).mono ?_; rintro e w2 ⟨rfl, hb2⟩))
    go_ret2
    exact ⟨rfl, hac1.on hb2⟩
end Go.Proofs.YtadamjleglckpaaGreat.drn

/- Package drain, the walks: slices.Index and Contains at ints, divided. -/
namespace Go.Proofs.YtadamjleglckpaaGreat.drn
open Go.RowKit
set_option linter.unusedSimpArgs false
set_option linter.unusedVariables false

theorem indexI_any (x : Int) (q : Option Addr) (cap : Nat) (xs : List Int) (w : World) (hr : RowV w q (flatI xs)) (hl : xs.length ≤ 1000000) :
    Calls Tryz.prog 79 #[.slice q xs.length cap, .int .i64 x] w fun e w' => e = .returned (.int .i64 (firstIdx (fun y => x == y) xs)) ∧ w = w' := by
  go_enter Tryz.func79, Tryz.ntmps79
  go_wp2
  go_loop [8] (fun i => ∃ k : Nat, k ≤ xs.length ∧ i = .int .i64 k ∧ AllNo (fun y => x == y) xs k) (fun i => xs.length - (intOf i).toNat)
  case atStart => exact ⟨0, Nat.zero_le _, rfl, AllNo.zero _ _⟩
  case round =>
    obtain ⟨k, hk, rfl, hall⟩ := hrel
    by_cases hlt : k < xs.length
    · obtain ⟨b, off, rfl, hb, h1⟩ := rowI_at hr hlt (Nat.le_refl _) (Below.refl _ w)
      have hst := hall.step hlt 0
      have HS := Lib.hid hst
      clear hst
      generalize xs.getD k 0 = y at h1 HS
      go_wp2
      · have hy : (x == y) = true := by assumption
        go_ret
        exact ⟨ret_int (HS.out.2 hy).symm, rfl⟩
      · have hy : (x == y) = false := by assumption
        go_round
        case rel => exact ⟨k + 1, hlt, by go_num, HS.out.1 hy⟩
        case measure => simp [intOf]; omega
    · obtain rfl : k = xs.length := by omega
      go_wp2
      go_ret
      exact ⟨ret_int hall.all.symm, rfl⟩
theorem any_swap (xs : List Int) (x : Int) : (xs.any fun y => x == y) = xs.any (· == x) := by
  congr 1
  funext y
  by_cases h : x = y
  · subst h; simp
  · have h1 : (x == y) = false := beq_eq_false_iff_ne.2 h
    have h2 : (y == x) = false := beq_eq_false_iff_ne.2 fun e => h e.symm
    rw [h1, h2]
theorem containsI_any (x : Int) (q : Option Addr) (cap : Nat) (xs : List Int) (w : World) (hr : RowV w q (flatI xs)) (hl : xs.length ≤ 1000000) :
    Calls Tryz.prog 28 #[.slice q xs.length cap, .int .i64 x] w fun e w' => e = .returned (.bool (xs.any (· == x))) ∧ w = w' := by
  go_enter Tryz.func28, Tryz.ntmps28
  go_wp2_with (go_at_call 79; refine (indexI_any x q cap xs _ hr hl).mono ?_; rintro e w' ⟨rfl, rfl⟩)
  go_ret
  exact ⟨ret_bool (by rw [← any_swap]; exact firstIdx_any _ _), rfl⟩

/-- the values of the lists that are let by -/
def pick (f : List Int → Bool) : List Value → List (List Int) → List Value
  | v :: vs, l :: ls => if f l then v :: pick f vs ls else pick f vs ls
  | _, _ => []
theorem pick_in {R : Value → List Int → Prop} (f : List Int → Bool) : ∀ {vs : List Value} {ls : List (List Int)}, InL R vs ls → InL R (pick f vs ls) (ls.filter f)
  | [], [], _ => trivial
  | v :: vs, l :: ls, h => by
    have ih := pick_in (R := R) f h.2
    unfold pick
    by_cases hf : f l = true
    · rw [if_pos hf, List.filter_cons_of_pos hf]; exact ⟨h.1, ih⟩
    · rw [if_neg hf, List.filter_cons_of_neg hf]; exact ih
  | [], _ :: _, h => h.elim
  | _ :: _, [], h => h.elim
theorem pick_snoc (f : List Int → Bool) : ∀ (vs : List Value) (ls : List (List Int)) (k : Nat) (v : Value), vs[k]? = some v → k < ls.length →
    pick f (vs.take (k + 1)) (ls.take (k + 1)) = pick f (vs.take k) (ls.take k) ++ if f (ls.getD k []) then [v] else []
  | [], _, k, v, h, _ => by simp at h
  | _ :: _, [], k, v, _, h => by simp at h
  | u :: vs, l :: ls, 0, v, h, _ => by
    simp at h
    subst h
    simp [pick]
  | u :: vs, l :: ls, k + 1, v, h, hk => by
    have ih := pick_snoc f vs ls k v (by simpa using h) (by simpa using hk)
    have e : (l :: ls).getD (k + 1) [] = ls.getD k [] := rfl
    rw [e, List.take_succ_cons, List.take_succ_cons, List.take_succ_cons, List.take_succ_cons]
    show pick f (u :: vs.take (k + 1)) (l :: ls.take (k + 1)) = pick f (u :: vs.take k) (l :: ls.take k) ++ _
    unfold pick
    by_cases hf : f l = true
    · rw [if_pos hf, if_pos hf, ih]; rfl
    · rw [if_neg hf, if_neg hf, ih]
theorem pick_len (f : List Int → Bool) : ∀ (vs : List Value) (ls : List (List Int)), (pick f vs ls).length ≤ vs.length
  | v :: vs, l :: ls => by
    have ih := pick_len f vs ls
    unfold pick
    split <;> simp <;> omega
  | [], [] => Nat.le_refl _
  | [], _ :: _ => Nat.le_refl _
  | _ :: _, [] => Nat.zero_le _

/-- append(list, v): lists -/
theorem app_list (w : World) {ops : Array Oper} {rest : List Oper} {o : Oper} {a : Act} {Q : Exit → Act → World → Prop} (hgd : o.guard = none) (s x : Operand)
    (ho : o.op = .call { callee := .builtin .append, args := #[s, x], argTypes := #[58, 58] }) (base : Nat) (v : Value) (vs : List Value) (q : Option Addr) (n c : Nat) (hs : a.eval s = v)
    (hown : w.ownsRow base 25 1 v vs.length vs) (B cc : Nat) (hx : a.eval x = .slice (some ⟨B, 0, none⟩) 1 cc)
    (hc1 : w.cell? ⟨B, 0, none⟩ = some (.slice q n c)) (hl : vs.length ≤ 1000000) (hbase : base ≤ w.heap.size)
    (h : ∀ v' w', w'.ownsRow base 25 1 v' (vs ++ [Value.slice q n c]).length (vs ++ [Value.slice q n c]) → w.grownBy w' v.ownBlock → (v'.ownBlock = v.ownBlock ∨ v'.ownBlock = some w.heap.size) → wpList Tryz.prog ops Q rest (a.put o.dst v') w') :
    wpList Tryz.prog ops Q (o :: rest) a w := by
  refine app_one w hgd s x 58 ho base 25 _ 1 24 Tryz.underlying58 infoL rfl (by decide) (by decide) v vs.length vs hs hown B cc hx [.slice q n c] rfl ?_ ?_ hl hbase ?_
  · intro j u hj
    match j, hj with
    | 0, hj => simp at hj; subst hj; exact hc1
  · intro u hu; simp at hu; subst hu; rfl
  · intro v' w' h1 h2 h3
    refine h v' w' ?_ h2 h3
    rw [List.length_append]
    exact h1

/-- two lists of lists, the new rows in new memory -/
def RetLL (w : World) (lo : Nat) (xs ys : List (List Int)) (e : Ending) (w' : World) : Prop :=
  ∃ q1 c1 vs1 q2 c2 vs2, e = .returned (.tuple #[.slice q1 xs.length c1, .slice q2 ys.length c2]) ∧ ListsAt w' lo q1 vs1 xs ∧ ListsAt w' lo q2 vs2 ys ∧ Below w.heap.size w w'

set_option maxRecDepth 100000 in
set_option maxHeartbeats 1000000 in
theorem divided_any (x : Int) (lo : Nat) (q : Option Addr) (c : Nat) (vs : List Value) (ls : List (List Int)) (w : World) (hlo : lo ≤ w.heap.size) (hls : ListsAt w lo q vs ls) (hl : ls.length ≤ 100000) (hg : ∀ l ∈ ls, l.length ≤ 1000) :
    Calls Tryz.prog 84 #[.slice q ls.length c, .int .i64 x] w (RetLL w lo (hav x ls) (oth x ls)) := by
  have hvl := hls.2.1.len
  have hpl1 := fun k => pick_len (fun p => p.any (· == x)) (vs.take k) (ls.take k)
  have hpl2 := fun k => pick_len (fun p => !p.any (· == x)) (vs.take k) (ls.take k)
  have HPL1 := Lib.hid hpl1
  have HPL2 := Lib.hid hpl2
  have HLS := Lib.hid hls
  have HVL := Lib.hid hvl
  have HG := Lib.hid hg
  clear hpl1 hpl2 hvl hls hg
  go_enter Tryz.func84, Tryz.ntmps84
  go_wp2
  go_loopw [4, 5, 10] (fun h o i wr => ∃ k : Nat, k ≤ ls.length ∧ i = .int .i64 k ∧
      wr.ownsRow w.heap.size 25 1 h (pick (fun p => p.any (· == x)) (vs.take k) (ls.take k)).length (pick (fun p => p.any (· == x)) (vs.take k) (ls.take k)) ∧
      wr.ownsRow w.heap.size 25 1 o (pick (fun p => !p.any (· == x)) (vs.take k) (ls.take k)).length (pick (fun p => !p.any (· == x)) (vs.take k) (ls.take k)) ∧
      (h.ownBlock = none ∨ h.ownBlock ≠ o.ownBlock) ∧ Below w.heap.size w wr) (fun _ _ i _ => ls.length - (intOf i).toNat)
  case atStart => exact ⟨0, Nat.zero_le _, rfl, World.ownsRow_nil _ _ _ _, World.ownsRow_nil _ _ _ _, .inl rfl, Below.refl _ _⟩
  case round =>
    obtain ⟨k, hk, rfl, ho1, ho2, hne, hbel⟩ := hrel
    by_cases hlt : k < ls.length
    · obtain ⟨v, hv, hlv⟩ := InL.get k HLS.out.2.1 hlt
      obtain ⟨b, off, rfl, hb, hcell⟩ := HLS.out.1.here (k := k) (by rw [HVL.out]; exact hlt)
      have h1 := (hbel.cell (p := ⟨b, off + k, none⟩) hb).trans (hcell k v hv)
      have hp1 := pick_snoc (fun p => p.any (· == x)) vs ls k v hv hlt
      have hp2 := pick_snoc (fun p => !p.any (· == x)) vs ls k v hv hlt
      have hb1 : (pick (fun p => p.any (· == x)) (vs.take k) (ls.take k)).length ≤ 100000 := Nat.le_trans (HPL1.out k) (by rw [List.length_take]; have := HVL.out; omega)
      have hb2 : (pick (fun p => !p.any (· == x)) (vs.take k) (ls.take k)).length ≤ 100000 := Nat.le_trans (HPL2.out k) (by rw [List.length_take]; have := HVL.out; omega)
      have hgl := HG.out _ (getD_mem ls k [] hlt)
      generalize ls.getD k [] = l at hlv hp1 hp2 hgl
      generalize pick (fun p => p.any (· == x)) (vs.take k) (ls.take k) = A at ho1 hp1 hb1
      generalize pick (fun p => !p.any (· == x)) (vs.take k) (ls.take k) = Bb at ho2 hp2 hb2
      obtain ⟨ql, cl, rfl, hrl, _, _⟩ := hlv
      have hlk : (k : Int) < (ls.length : Int) := by omega
      have hrlw := hrl.below (Nat.le_refl _) hbel
      obtain ⟨y, hy⟩ : ∃ y, l.any (· == x) = y := ⟨_, rfl⟩
      have hco := fun W hb => containsI_any x ql cl l W (hrlw.below (Nat.le_refl _) hb) (by omega)
      simp only [hy] at hco hp1 hp2
      have HCO := Lib.hid hco
      have HP1 := Lib.hid hp1
      have HP2 := Lib.hid hp2
      have HO1 := Lib.hid ho1
      have HO2 := Lib.hid ho2
      have HNE := Lib.hid hne
      have hsz := hbel.size
      clear hco hp1 hp2 ho1 ho2 hne hy hrlw hrl hv hcell
      cases y with
      | true =>
        go_wp2_with (first
          | (go_at_call 28; refine (HCO.out wr (Below.refl _ _)).mono ?_; rintro e w1 ⟨rfl, rfl⟩)
          | (at_builtin; refine app_list _ rfl (.tmp 17) (.tmp 19) rfl w.heap.size u4 A ql l.length cl rfl (HO1.out.alloc _) wr.heap.size 1 rfl (by simp) (by omega) (by simp; omega) ?_; intro v2 w2 hown2 hgr2 hbk2))
        have hb2w : Below w.heap.size w w2 := hbel.trans (((Below.refl _ _).alloc hbel.size _).trans (grown_below (HO1.out.alloc _) (by simp; omega) hgr2))
        have hother : w2.ownsRow w.heap.size 25 1 u5 Bb.length Bb := (HO2.out.alloc _).kept hgr2 (by
          rcases HNE.out with h | h
          · rw [h]; cases hob : u5.ownBlock <;> simp
          · exact .inr fun e => h e.symm)
        have hne2 : v2.ownBlock = none ∨ v2.ownBlock ≠ u5.ownBlock := by
          right
          intro e
          rcases hbk2 with h | h
          · rcases HNE.out with h2 | h2
            · have hz : v2.ownBlock ≠ none := by
                obtain ⟨_, ⟨hv, hn⟩ | ⟨g, cap, cur, hv, _⟩⟩ := hown2
                · simp at hn
                · rw [hv]; simp [Value.ownBlock]
              rw [h, h2] at hz
              exact hz rfl
            · exact h2 (by rw [← h]; exact e)
          · have h3 := (HO2.out.lt _ (by rw [← e, h])).2
            simp at h3
            omega
        clear hgr2 hbk2
        go_roundw
        case rel => exact ⟨k + 1, hlt, by go_num, by rw [HP1.out]; exact hown2, by rw [HP2.out]; simpa using hother, hne2, hb2w⟩
        case measure => simp [intOf]; omega
      | false =>
        go_wp2_with (first
          | (go_at_call 28; refine (HCO.out wr (Below.refl _ _)).mono ?_; rintro e w1 ⟨rfl, rfl⟩)
          | (at_builtin; refine app_list _ rfl (.tmp 21) (.tmp 23) rfl w.heap.size u5 Bb ql l.length cl rfl (HO2.out.alloc _) wr.heap.size 1 rfl (by simp) (by omega) (by simp; omega) ?_; intro v2 w2 hown2 hgr2 hbk2))
        have hb2w : Below w.heap.size w w2 := hbel.trans (((Below.refl _ _).alloc hbel.size _).trans (grown_below (HO2.out.alloc _) (by simp; omega) hgr2))
        have hother : w2.ownsRow w.heap.size 25 1 u4 A.length A := (HO1.out.alloc _).kept hgr2 (by
          rcases HNE.out with h | h
          · exact .inl h
          · exact .inr h)
        have hne2 : u4.ownBlock = none ∨ u4.ownBlock ≠ v2.ownBlock := by
          rcases HNE.out with h | h
          · exact .inl h
          · right
            intro e
            rcases hbk2 with h2 | h2
            · exact h (by rw [e, h2])
            · have h3 := (HO1.out.lt _ (by rw [e, h2])).2
              simp at h3
              omega
        clear hgr2 hbk2
        go_roundw
        case rel => exact ⟨k + 1, hlt, by go_num, by rw [HP1.out]; simpa using hother, by rw [HP2.out]; exact hown2, hne2, hb2w⟩
        case measure => simp [intOf]; omega
    · obtain rfl : k = ls.length := by omega
      have hvt : vs.take ls.length = vs := by rw [← HVL.out, List.take_length]
      rw [hvt, List.take_length] at ho1 ho2
      have hin1 := pick_in (fun p => p.any (· == x)) (InL.mono (fun v l (h : ListAt w lo v l) => h.below (Nat.le_refl _) hbel) HLS.out.2.1)
      have hin2 := pick_in (fun p => !p.any (· == x)) (InL.mono (fun v l (h : ListAt w lo v l) => h.below (Nat.le_refl _) hbel) HLS.out.2.1)
      obtain ⟨q1, c1, rfl, hr1, _, hq1⟩ := rowV_of_owns ho1 (by intro h; exact List.length_eq_zero_iff.1 h)
      obtain ⟨q2, c2, rfl, hr2, _, hq2⟩ := rowV_of_owns ho2 (by intro h; exact List.length_eq_zero_iff.1 h)
      have hl1 := hin1.len
      have hl2 := hin2.len
      rw [hl1, hl2]
      have HI1 := Lib.hid hin1
      have HI2 := Lib.hid hin2
      have HR1 := Lib.hid hr1
      have HR2 := Lib.hid hr2
      have HQ1 := Lib.hid hq1
      have HQ2 := Lib.hid hq2
      clear hl1 hl2 hin1 hin2 hr1 hr2 hq1 hq2 ho1 ho2 hne hvt
      go_wp2
      go_ret2
      exact ⟨q1, c1, _, q2, c2, _, rfl, ⟨HR1.out, HI1.out, fun a ha => ⟨Nat.le_trans hlo (HQ1.out a ha).1, (HQ1.out a ha).2⟩⟩, ⟨HR2.out, HI2.out, fun a ha => ⟨Nat.le_trans hlo (HQ2.out a ha).1, (HQ2.out a ha).2⟩⟩, hbel⟩
end Go.Proofs.YtadamjleglckpaaGreat.drn

/- Helpers of the law: slices.Min at ints; cheapest. -/
namespace Go.Proofs.YtadamjleglckpaaGreat.drn
open Go.RowKit
set_option linter.unusedSimpArgs false
set_option linter.unusedVariables false
theorem minI_any (q : Option Addr) (cap : Nat) (xs : List Int) (w : World) (hr : RowV w q (flatI xs)) (hl : xs.length ≤ 1000000) (h1 : 1 ≤ xs.length) :
    Calls Tryz.prog 78 #[.slice q xs.length cap] w fun e w' => ∃ m : Int, e = .returned (.int .i64 m) ∧ m ∈ xs ∧ (∀ y ∈ xs, m ≤ y) ∧ w = w' := by
  obtain ⟨b, off, rfl, hb, g0⟩ := rowI_at hr (k := 0) (by omega) (Nat.le_refl _) (Below.refl _ w)
  have hn1 : ¬ (xs.length : Int) < 1 := by omega
  rw [Nat.add_zero] at g0
  go_enter Tryz.func78, Tryz.ntmps78
  go_wp2
  go_loop [3, 4] (fun m i => ∃ (k : Nat) (x : Int), 1 ≤ k ∧ k ≤ xs.length ∧ i = .int .i64 k ∧ m = .int .i64 x ∧ Hid (x ∈ xs ∧ ∀ y ∈ xs.take k, x ≤ y)) (fun _ i => xs.length - (intOf i).toNat)
  case atStart =>
    refine ⟨1, xs.getD 0 0, Nat.le_refl _, h1, rfl, rfl, Lib.hid ⟨getD_mem xs 0 0 (by omega), fun y hy => ?_⟩⟩
    rw [show (1 : Nat) = 0 + 1 from rfl, getD_take xs 0 0 (by omega)] at hy
    simp only [List.take_zero, List.nil_append, List.mem_singleton] at hy
    omega
  case round =>
    obtain ⟨k, x, hk1, hk, rfl, rfl, HX⟩ := hrel
    by_cases hlt : k < xs.length
    · obtain ⟨b2, off2, e2, hb2, g1⟩ := rowI_at hr hlt (Nat.le_refl _) (Below.refl _ w)
      injection e2 with e2
      injection e2 with e2 e3
      subst e2
      subst e3
      have hkl : (k : Int) < (xs.length : Int) := by omega
      have HT := Lib.hid (getD_take xs k 0 hlt)
      have HM := Lib.hid (getD_mem xs k 0 hlt)
      generalize xs.getD k 0 = y at g1 HT HM
      have HNEW := Lib.hid (show min x y ∈ xs ∧ ∀ z ∈ xs.take (k + 1), min x y ≤ z from by
        refine ⟨?_, fun z hz => ?_⟩
        · rcases Int.le_total x y with h | h
          · rw [Int.min_eq_left h]; exact HX.out.1
          · rw [Int.min_eq_right h]; exact HM.out
        · rw [HT.out, List.mem_append, List.mem_singleton] at hz
          rcases hz with hz | rfl
          · have := HX.out.2 z hz; omega
          · omega)
      generalize hmn : min x y = m at HNEW
      go_wp2
      go_round
      case rel => exact ⟨k + 1, m, by omega, hlt, by go_num, rfl, HNEW⟩
      case measure => simp [intOf]; omega
    · obtain rfl : k = xs.length := by omega
      have h2 := HX.out
      rw [List.take_length] at h2
      have HX2 := Lib.hid h2
      clear h2
      go_wp2
      go_ret
      exact ⟨x, rfl, HX2.out.1, HX2.out.2, rfl⟩
/-- a list in memory, what it costs, and how many lists cost this -/
def CheapPost (w : World) (n : Nat) (cs : List Ch) (e : Ending) (w' : World) : Prop :=
  (plansS n cs = [] → e = .returned (.tuple #[.slice none 0 0, .int .i64 0, .int .i64 0])) ∧
  (plansS n cs ≠ [] → ∃ q c p, p ∈ plansS n cs ∧ costS cs p = leastS cs (plansS n cs) ∧ cheapS cs (plansS n cs) = some p ∧ RowV w' q (flatI p) ∧
    e = .returned (.tuple #[.slice q p.length c, .int .i64 (leastS cs (plansS n cs)), .int .i64 ((plansS n cs).filter fun p => costS cs p == leastS cs (plansS n cs)).length])) ∧ Below w.heap.size w w'
theorem least_min {n : Int} {cs : List Ch} (hc : ∀ c ∈ cs, ChOk n c) {ps : List (List Int)} {m : Int} (h : m ∈ ps.map (costS cs)) (hm : ∀ y ∈ ps.map (costS cs), m ≤ y) : m = leastS cs ps := by
  obtain ⟨p0, hp0, rfl⟩ := List.mem_map.1 h
  obtain ⟨p, hp, h1, h2⟩ := least_spec hc (ps := ps) (by rintro rfl; cases hp0)
  have h3 := h2 p0 hp0
  have h4 := hm _ (List.mem_map.2 ⟨p, hp, rfl⟩)
  omega
theorem cheap_first {n : Int} {cs : List Ch} (hc : ∀ c ∈ cs, ChOk n c) {ps : List (List Int)} {k : Nat} (hk : k < ps.length) (h1 : costS cs (ps.getD k []) = leastS cs ps) (h2 : ∀ x ∈ (ps.map (costS cs)).take k, x ≠ leastS cs ps) : cheapS cs ps = some (ps.getD k []) := by
  obtain ⟨p, hp, e1, e2⟩ := least_spec hc (ps := ps) (by rintro rfl; simp at hk)
  have h0 : ∀ q : List Int, 0 ≤ costS cs q := fun q => (costS_bd hc q).1
  unfold cheapS
  refine (firstMin_some _ _ _).2 ⟨ps.take k, ps.drop (k + 1), ?_, fun y hy => ?_, fun y hy => ?_⟩
  · rw [getD_eq ps k [] hk, ← List.drop_eq_getElem_cons hk, List.take_append_drop]
  · have h3 := h2 (costS cs y) (by rw [← List.map_take]; exact List.mem_map.2 ⟨y, hy, rfl⟩)
    have h4 := e2 y (List.mem_of_mem_take hy)
    have h5 := h0 y
    have h6 := h0 (ps.getD k [])
    show (costS cs (ps.getD k [])).toNat < (costS cs y).toNat
    omega
  · have h4 := e2 y (List.mem_of_mem_drop hy)
    have h5 := h0 y
    have h6 := h0 (ps.getD k [])
    show (costS cs (ps.getD k [])).toNat ≤ (costS cs y).toNat
    omega
theorem count_least (cs : List Ch) (m : Int) (ps : List (List Int)) : (ps.map (costS cs)).countP (fun k => k == m) = (ps.filter fun p => costS cs p == m).length := by
  rw [List.countP_map, List.countP_eq_length_filter]; rfl
set_option maxRecDepth 100000 in
set_option maxHeartbeats 8000000 in
theorem cheapest_any (n cap : Nat) (q : Option Addr) (cs : List Ch) (w : World) (hc : Chs n cs) (hr : RowV w q (flatT cs)) (hq : ∀ a, q = some a → a.block < w.heap.size) :
    Calls Tryz.prog 22 #[hillV n q cs.length cap] w (CheapPost w n cs) := by
  have hb0 : Below w.heap.size w (w.alloc (.cells #[.int .i64 n, .slice q cs.length cap] 24)) := (Below.refl _ _).alloc (Nat.le_refl _) _
  have hP := plans_any n cap q cs (w.alloc (.cells #[.int .i64 n, .slice q cs.length cap] 24)) hc (hr.below (Nat.le_refl _) hb0) (fun a ha => by have := hq a ha; simp; omega)
  have HB := Lib.hid hb0
  have HP := Lib.hid hP
  have HC := Lib.hid hc
  unfold hillV at HP ⊢
  clear hb0 hP hr hq hc
  go_enter Tryz.func22, Tryz.ntmps22
  go_upto_region 1 with fail
  have hb0 := HB.out
  obtain ⟨W0, hW0⟩ : ∃ W0, w.alloc (.cells #[.int .i64 n, .slice q cs.length cap] 24) = W0 := ⟨_, rfl⟩
  rw [hW0] at HP hb0 ⊢
  have hcell : W0.cell? ⟨w.heap.size, 0, none⟩ = some (.int .i64 n) ∧ W0.cell? ⟨w.heap.size, 1, none⟩ = some (.slice q cs.length cap) := by rw [← hW0]; simp
  have hc0 := hcell.1
  have hc1 := hcell.2
  clear hW0 HB hcell
  go_upto_region 2 with (go_at_call 26; refine HP.out.mono ?_; rintro e W1 ⟨q1, k1, vs, q2, k2, rfl, hvl, hr1, hin, hr2, hb1⟩)
  have hpl := plansS_len HC.out
  have hlst := fun m => least_min HC.out.ok (ps := plansS n cs) (m := m)
  have hfin := fun e w' => (Iff.rfl : CheapPost w n cs e w' ↔ CheapPost w n cs e w')
  have HB1 := Lib.hid (hb0.on hb1)
  obtain ⟨ps, hps⟩ : ∃ ps, plansS n cs = ps := ⟨_, rfl⟩
  have HPS := Lib.hid hps
  rw [hps] at hvl hin hr2 hpl hlst ⊢
  obtain ⟨ks, hks⟩ : ∃ ks, ps.map (costS cs) = ks := ⟨_, rfl⟩
  have HKS := Lib.hid hks
  rw [hks] at hr2 hlst
  have hkl : ks.length = ps.length := by rw [← hks, List.length_map]
  obtain ⟨m, hm⟩ : ∃ m, ps.length = m := ⟨_, rfl⟩
  have HPL := Lib.hid hm
  rw [hm] at hkl hpl hvl ⊢
  have HKL := Lib.hid hkl
  have HLST := Lib.hid hlst
  have HVL := Lib.hid hvl
  have HIN := Lib.hid hin
  have HR1 := Lib.hid hr1
  have HR2 := Lib.hid hr2
  clear hfin hps hks hm hkl hlst hvl hin hr1 hr2 hb0 hb1 hc0 hc1 HP
  by_cases hm0 : m = 0
  · subst hm0
    have hnil : plansS n cs = [] := by rw [HPS.out]; exact List.length_eq_zero_iff.1 HPL.out
    have HNIL := Lib.hid hnil
    clear hnil
    go_wp2
    go_ret3
    exact ⟨fun _ => rfl, fun h => absurd HNIL.out h, HB1.out⟩
  · have hmf : ((m : Int) == 0) = false := by simp; omega
    have hne : plansS n cs ≠ [] := by rw [HPS.out]; intro h; have := HPL.out; rw [h] at this; exact hm0 this.symm
    have HNE := Lib.hid hne
    have hmin : Calls Tryz.prog 78 #[.slice q2 m k2] W1 fun e w' => ∃ x : Int, e = .returned (.int .i64 x) ∧ x ∈ ks ∧ (∀ y ∈ ks, x ≤ y) ∧ W1 = w' := by
      have h := minI_any q2 k2 ks W1 HR2.out (by have := HKL.out; omega) (by have := HKL.out; omega)
      rw [HKL.out] at h
      exact h
    have HMIN := Lib.hid hmin
    have hmp : 0 < m := by omega
    clear hne hmin hm0
    go_upto_region 5 with (go_at_call 78; refine HMIN.out.mono ?_; rintro e W2 ⟨x, rfl, hx1, hx2, rfl⟩)
    have HX := Lib.hid (HLST.out x hx1 hx2)
    have hidx : Calls Tryz.prog 79 #[.slice q2 m k2, .int .i64 x] W1 fun e w' => ∃ k : Nat, e = .returned (.int .i64 k) ∧ k < m ∧ ks.getD k 0 = x ∧ (∀ y ∈ ks.take k, y ≠ x) ∧ W1 = w' := by
      have h := indexI_any x q2 k2 ks W1 HR2.out (by have := HKL.out; omega)
      rw [HKL.out] at h
      refine h.mono ?_
      rintro e w' ⟨rfl, rfl⟩
      rcases firstIdx_case (fun y => x == y) ks 0 with ⟨_, h2⟩ | ⟨k, h1, h2, h3, h4⟩
      · have := h2 x hx1; simp at this
      · exact ⟨k, by rw [h2], by have := HKL.out; omega, by simpa using (beq_iff_eq.1 h3).symm, fun y hy e => by have := h4 y hy; rw [e] at this; simp at this, rfl⟩
    have HIDX := Lib.hid hidx
    clear hidx hx1 hx2
    go_wp2
    go_loop [8, 23] (fun v i => ∃ j : Nat, j ≤ m ∧ i = .int .i64 j ∧ v = .int .i64 (((ks.take j).countP (fun k => k == x) : Nat) : Int)) (fun _ i => m - (intOf i).toNat)
    case atStart => exact ⟨0, Nat.zero_le _, rfl, rfl⟩
    case round =>
      obtain ⟨j, hj, rfl, rfl⟩ := hrel
      by_cases hjm : j < m
      · have hjk : j < ks.length := by have := HKL.out; omega
        obtain ⟨b, off, rfl, hb, g1⟩ := rowI_at HR2.out hjk (Nat.le_refl _) (Below.refl _ _)
        have hst : (ks.take (j + 1)).countP (fun k => k == x) = (ks.take j).countP (fun k => k == x) + if (ks.getD j 0 == x) = true then 1 else 0 := by
          rw [getD_take ks j 0 hjk, List.countP_append, List.countP_singleton]
        have hcb : (ks.take j).countP (fun k => k == x) ≤ 16384 := by
          have := List.countP_le_length (p := fun k => k == x) (l := ks.take j)
          rw [List.length_take] at this
          omega
        have HST := Lib.hid hst
        generalize ks.getD j 0 = y at g1 HST
        generalize (ks.take j).countP (fun k => k == x) = c at hcb HST ⊢
        have hjmi : (j : Int) < (m : Int) := by omega
        clear hst hjk
        go_wp2
        · have hy : (y == x) = true := by assumption
          go_round
          case rel => exact ⟨j + 1, hjm, by go_num, by rw [HST.out, if_pos hy]; rfl⟩
          case measure => simp [intOf]; omega
        · have hy : (y == x) = false := by assumption
          go_round
          case rel => exact ⟨j + 1, hjm, by go_num, by rw [HST.out, if_neg (by rw [hy]; decide)]; rfl⟩
          case measure => simp [intOf]; omega
      · obtain rfl : j = m := by omega
        have hct : (ks.take j).countP (fun k => k == x) = ((plansS n cs).filter fun p => costS cs p == leastS cs (plansS n cs)).length := by
          rw [show ks.take j = ks by rw [← HKL.out, List.take_length], HPS.out, ← HKS.out, count_least, HX.out]
        have HCT := Lib.hid hct
        generalize (ks.take j).countP (fun k => k == x) = c at HCT ⊢
        clear hct
        have hcells : ∀ k, k < j → ∃ b off ql cl p, q1 = some ⟨b, off, none⟩ ∧ W1.cell? ⟨b, off + k, none⟩ = some (.slice ql p.length cl) ∧ RowV W1 ql (flatI p) ∧ p ∈ plansS n cs ∧ ks.getD k 0 = costS cs p ∧ p = ps.getD k [] := by
          intro k hk
          have hkp : k < ps.length := by have := HPL.out; omega
          obtain ⟨u, hu, ql, cl, rfl, hrl⟩ := InL.get k HIN.out hkp
          obtain ⟨b, off, rfl, hb, hcell⟩ := HR1.out.here (k := k) (by have := HVL.out; omega)
          refine ⟨b, off, ql, cl, ps.getD k [], rfl, hcell k _ hu, hrl, by rw [HPS.out]; exact getD_mem ps k [] hkp, ?_, rfl⟩
          rw [← HKS.out, getD_eq _ k 0 (by rw [List.length_map]; exact hkp), List.getElem_map, getD_eq ps k [] hkp]
        have HCELLS := Lib.hid hcells
        clear hcells
        go_wp2_with (go_at_call 79; refine HIDX.out.mono ?_; rintro e W3 ⟨k, rfl, hkm, hkx, hkf, rfl⟩; obtain ⟨b, off, ql, cl, p, rfl, hcell, hrl, hmem, hcost, hpe⟩ := HCELLS.out k hkm; have HKF := Lib.hid hkf; have HPE := Lib.hid hpe; clear hkf hpe; have hki : (k : Int) < (j : Int) := by omega)
        go_ret3
        have hxl : x = leastS cs (plansS n cs) := by rw [HPS.out]; exact HX.out
        refine ⟨fun h => absurd h HNE.out, fun _ => ⟨ql, cl, p, hmem, by rw [← hcost, hkx, hxl], ?_, hrl, ?_⟩, HB1.out⟩
        · have hkp : k < ps.length := by have := HPL.out; omega
          rw [HPE.out, HPS.out]
          refine cheap_first HC.out.ok hkp ?_ ?_
          · rw [← HPE.out, ← HX.out, ← hkx, hcost]
          · rw [HKS.out, ← HX.out]; exact HKF.out
        · show Ending.returned (.tuple #[.slice ql p.length cl, .int .i64 x, .int .i64 (c : Nat)]) = _
          rw [HCT.out, hxl]
end Go.Proofs.YtadamjleglckpaaGreat.drn

/- Helpers of the law: members and out. -/
namespace Go.Proofs.YtadamjleglckpaaGreat.drn
open Go.RowKit
set_option linter.unusedSimpArgs false
set_option linter.unusedVariables false
theorem bit_i (s k : Nat) (hs : s < 64) : (bits BinOp.and IntKind.i64 ((s : Int) / 2 ^ k) 1 == 1) = s.testBit k := by
  have e : ((s : Int) / 2 ^ k) = ((s / 2 ^ k : Nat) : Int) := by simp
  have h : s / 2 ^ k ≤ s := Nat.div_le_self _ _
  have hd : ∀ q : Nat, q < 64 → (bits BinOp.and IntKind.i64 (q : Int) 1 == 1) = decide (q % 2 = 1) := by decide +kernel
  rw [e, hd _ (by omega), Nat.testBit_eq_decide_div_mod_eq]
theorem bit_i0 (s k : Nat) (hs : s < 64) : (bits BinOp.and IntKind.i64 ((s : Int) / 2 ^ k) 1 == 0) = !s.testBit k := by
  have e : ((s : Int) / 2 ^ k) = ((s / 2 ^ k : Nat) : Int) := by simp
  have h : s / 2 ^ k ≤ s := Nat.div_le_self _ _
  have hd : ∀ q : Nat, q < 64 → (bits BinOp.and IntKind.i64 (q : Int) 1 == 0) = !decide (q % 2 = 1) := by decide +kernel
  rw [e, hd _ (by omega), Nat.testBit_eq_decide_div_mod_eq]
theorem rangeF_past (s : Nat) (hs : s < 64) : ∀ j, rangeF (fun i => s.testBit i) (6 + j) = rangeF (fun i => s.testBit i) 6
  | 0 => rfl
  | j + 1 => by
    rw [show 6 + (j + 1) = (6 + j) + 1 by omega, rangeF_succ, if_neg, List.append_nil]
    · exact rangeF_past s hs j
    · have : s < 2 ^ (6 + j) := Nat.lt_of_lt_of_le hs (by rw [Nat.pow_add]; have := Nat.one_le_two_pow (n := j); omega)
      rw [Nat.testBit_lt_two_pow this]; decide
set_option maxRecDepth 100000 in
theorem members_any (s : Nat) (w : World) (hs : s < 64) : Calls Tryz.prog 25 #[.int .i64 s] w (RetV w 3 1 (listS s).length (flatI (listS s))) := by
  have HS := Lib.hid ((listS_eq s).trans (rangeF_past s hs 10).symm)
  go_enter Tryz.func25, Tryz.ntmps25
  go_wp2
  go_loopw [3, 5] (fun v i wr => ∃ k : Nat, k ≤ 16 ∧ i = .int .i64 k ∧ wr.ownsRow w.heap.size 3 1 v (rangeF (fun i => s.testBit i) k).length (flatI (rangeF (fun i => s.testBit i) k)) ∧ Below w.heap.size w wr) (fun _ i _ => 16 - (intOf i).toNat)
  case atStart => exact ⟨0, Nat.zero_le _, rfl, World.ownsRow_nil _ _ _ _, Below.refl _ _⟩
  case round =>
    obtain ⟨k, hk, rfl, hown, hbel⟩ := hrel
    by_cases hlt : k < 16
    · have hst := rangeF_succ (fun i => s.testBit i) k
      have hle := rangeF_len (fun i => s.testBit i) k
      have HST := Lib.hid hst
      clear hst
      generalize rangeF (fun i => s.testBit i) k = xs at hown HST hle
      have HO := Lib.hid hown
      have hk6 : (k : Int) < 16 := by omega
      have hbi := bit_i s k (by omega)
      have HBI := Lib.hid hbi
      clear hown hbi
      go_wp2_with (at_builtin; refine app_int _ rfl (.tmp 13) (.tmp 15) rfl w.heap.size _ xs (k : Int) rfl (HO.out.alloc _) wr.heap.size 1 rfl (by simp) (by omega) (by have := hbel.size; simp; omega) ?_; intro v2 w2 hown2 hgr2 hbk2; have hb2 : Below w.heap.size w w2 := hbel.trans (((Below.refl _ _).alloc hbel.size _).trans (grown_below (HO.out.alloc _) (by have := hbel.size; simp; omega) hgr2)))
      · have hbit : s.testBit k = true := by rw [← HBI.out]; assumption
        go_roundw
        case rel => exact ⟨k + 1, hlt, by go_num, by rw [HST.out, if_pos hbit]; exact hown2, hb2⟩
        case measure => simp [intOf]; omega
      · have hbit : s.testBit k = false := by rw [← HBI.out]; assumption
        go_roundw
        case rel => exact ⟨k + 1, hlt, by go_num, by rw [HST.out, if_neg (by rw [hbit]; decide), List.append_nil]; exact HO.out, hbel⟩
        case measure => simp [intOf]; omega
    · obtain rfl : k = 16 := by omega
      go_wp2
      go_ret
      exact ⟨_, rfl, by rw [HS.out]; exact hown, hbel⟩
end Go.Proofs.YtadamjleglckpaaGreat.drn

/- math/bits.OnesCount at small sets; or at small sets. -/
namespace Go.Proofs.YtadamjleglckpaaGreat.drn
open Go.RowKit
theorem ones_any (s : Nat) (w : World) (hs : s < 64) : Calls Tryz.prog 108 #[.int .u64 s] w fun e w' => e = .returned (.int .i64 (sizeS s : Nat)) ∧ w = w' := by
  go_enter Tryz.func108, Tryz.ntmps108
  go_wp2
  go_ret
  refine ⟨?_, rfl⟩
  refine congrArg (fun z : Int => Ending.returned (Value.int .i64 z)) ?_
  revert s
  decide +kernel
theorem or_sets (s t : Nat) (hs : s < 64) (ht : t < 64) : bits BinOp.or IntKind.i64 (s : Int) (t : Int) = ((s ||| t : Nat) : Int) := by
  have hd : ∀ s : Nat, s < 64 → ∀ t : Nat, t < 64 → bits BinOp.or IntKind.i64 (s : Int) (t : Int) = ((s ||| t : Nat) : Int) := by decide +kernel
  exact hd s hs t ht
theorem u64_set (s : Nat) (hs : s < 64) : IntKind.u64.wrap (s : Int) = (s : Int) := by
  have hd : ∀ s : Nat, s < 64 → IntKind.u64.wrap (s : Int) = (s : Int) := by decide +kernel
  exact hd s hs
end Go.Proofs.YtadamjleglckpaaGreat.drn

/- Package drain, the walks: nextPayer. -/
namespace Go.Proofs.YtadamjleglckpaaGreat.drn
open Go.RowKit
set_option linter.unusedSimpArgs false
set_option linter.unusedVariables false

/-- nothing is left of a channel that leaves a set -/
def spentC (s : Nat) (c : Ch) : Bool := c.2.2 == 0 && leavesS s c
def SetAt (w : World) (B s : Nat) : Prop := B < w.heap.size ∧ w.cell? ⟨B, 0, none⟩ = some (.int .u64 s)
theorem SetAt.below {w w' : World} {B s : Nat} (h : SetAt w B s) {N : Nat} (hN : w.heap.size ≤ N) (hb : Below N w w') : SetAt w' B s :=
  ⟨Nat.lt_of_lt_of_le h.1 hb.size, (hb.cell (p := ⟨B, 0, none⟩) (Nat.lt_of_lt_of_le h.1 hN)).trans h.2⟩
set_option maxRecDepth 100000 in
theorem payer11_any (n s B : Nat) (c : Ch) (w : World) (hn : n ≤ 6) (hc : ChOk n c) (hs : s < 2 ^ n) (hB : SetAt w B s) :
    Calls Tryz.prog 113 #[.agg #[.int .i64 c.1, plV n c.2.1, .int .i64 c.2.2], .pointer (some ⟨B, 0, none⟩)] w fun e w' => e = .returned (.bool (spentC s c)) ∧ Below w.heap.size w w' := by
  have hlv := fun W => leaves_any n s c W hn hc hs
  obtain ⟨T, hT⟩ : ∃ T, plV n c.2.1 = .iface T (.int .i64 c.2.1) := ⟨_, rfl⟩
  rw [hT]
  simp only [hT] at hlv
  obtain ⟨z0, c0⟩ := hB
  have hb0 : Below w.heap.size w (w.alloc (.cells #[.int .i64 c.1, .iface T (.int .i64 c.2.1), .int .i64 c.2.2] 128)) := (Below.refl _ _).alloc (Nat.le_refl _) _
  have HLV := Lib.hid hlv
  have HB := Lib.hid hb0
  clear hlv hT hb0 hs hc
  by_cases h0 : c.2.2 = 0
  · have hb : (c.2.2 == 0) = true := by simpa using h0
    have HSP := Lib.hid (show spentC s c = leavesS s c by simp [spentC, h0])
    clear h0
    go_enter Tryz.func113, Tryz.ntmps113
    go_wp2_with (go_at_call 106; refine (HLV.out _).mono ?_; rintro e w1 ⟨rfl, hb1⟩)
    go_ret
    exact ⟨ret_bool (by rw [HSP.out]), HB.out.on hb1⟩
  · have hb : (c.2.2 == 0) = false := by simpa using h0
    have HSP := Lib.hid (show spentC s c = false by simp [spentC, h0])
    clear h0
    go_enter Tryz.func113, Tryz.ntmps113
    go_wp2_with (go_at_call 106; refine (HLV.out _).mono ?_; rintro e w1 ⟨rfl, hb1⟩)
    go_ret
    exact ⟨ret_bool (by rw [HSP.out]), HB.out⟩

set_option maxRecDepth 100000 in
theorem indexC_any (n s B : Nat) (q : Option Addr) (cap : Nat) (cs : List Ch) (w : World) (hc : Chs n cs) (hs : s < 2 ^ n) (hB : SetAt w B s) (hr : RowV w q (flatC n cs)) :
    Calls Tryz.prog 135 #[.slice q cs.length cap, .func (.func 113) #[] #[.pointer (some ⟨B, 0, none⟩)]] w fun e w' => e = .returned (.int .i64 (firstIdx (spentC s) cs)) ∧ Below w.heap.size w w' := by
  have hl := hc.many
  have hpp := fun W c hm hb => payer11_any n s B c W hc.n6 (hc.ok c hm) hs (hB.below (Nat.le_refl _) hb)
  have HPP := Lib.hid hpp
  clear hpp hs hB
  go_enter Tryz.func135, Tryz.ntmps135
  go_wp2
  go_loopw [8] (fun i wr => ∃ k : Nat, k ≤ cs.length ∧ i = .int .i64 k ∧ AllNo (spentC s) cs k ∧ Below w.heap.size w wr) (fun i _ => cs.length - (intOf i).toNat)
  case atStart => exact ⟨0, Nat.zero_le _, rfl, AllNo.zero _ _, Below.refl _ _⟩
  case round =>
    obtain ⟨k, hk, rfl, hall, hbel⟩ := hrel
    by_cases hlt : k < cs.length
    · obtain ⟨b, off, rfl, hb, h1, h2, h3⟩ := rowC_at hr hlt (Nat.le_refl _) hbel
      have hst := hall.step hlt (0, 0, 0)
      have hm := getD_mem cs k (0, 0, 0) hlt
      generalize cs.getD k (0, 0, 0) = c at h1 h2 h3 hst hm
      have hcc := HPP.out wr c hm hbel
      obtain ⟨T, hT⟩ : ∃ T, plV n c.2.1 = .iface T (.int .i64 c.2.1) := ⟨_, rfl⟩
      rw [hT] at h2 hcc
      obtain ⟨y, hy⟩ : ∃ y, spentC s c = y := ⟨_, rfl⟩
      rw [hy] at hcc hst
      have HST := Lib.hid hst
      have HCC := Lib.hid hcc
      clear hst hcc hT
      go_wp2_with (go_at_call 113; refine HCC.out.mono ?_; rintro e w' ⟨rfl, hb'⟩)
      · have hf : y = true := by assumption
        go_ret
        exact ⟨ret_int (HST.out.2 hf).symm, hbel.on hb'⟩
      · have hf : y = false := by assumption
        go_roundw
        case rel => exact ⟨k + 1, hlt, by go_num, HST.out.1 hf, hbel.on hb'⟩
        case measure => simp [intOf]; omega
    · obtain rfl : k = cs.length := by omega
      go_wp2
      go_ret
      exact ⟨ret_int hall.all.symm, hbel⟩
theorem containsC_any (n s B : Nat) (q : Option Addr) (cap : Nat) (cs : List Ch) (w : World) (hc : Chs n cs) (hs : s < 2 ^ n) (hB : SetAt w B s) (hr : RowV w q (flatC n cs)) :
    Calls Tryz.prog 112 #[.slice q cs.length cap, .func (.func 113) #[] #[.pointer (some ⟨B, 0, none⟩)]] w fun e w' => e = .returned (.bool (cs.any (spentC s))) ∧ Below w.heap.size w w' := by
  go_enter Tryz.func112, Tryz.ntmps112
  go_wp2_with (go_at_call 135; refine (indexC_any n s B q cap cs _ hc hs hB hr).mono ?_; rintro e w' ⟨rfl, hb⟩)
  go_ret
  exact ⟨ret_bool (firstIdx_any _ _), hb⟩
theorem payer1_any (n s B : Nat) (cs : List Ch) (w : World) (hc : Chs n cs) (hs : s < 2 ^ n) (hB : ChsAt w B n cs) :
    Calls Tryz.prog 111 #[.int .u64 s, .pointer (some ⟨B, 0, none⟩)] w fun e w' => e = .returned (.bool (cs.any (spentC s))) ∧ Below w.heap.size w w' := by
  have hb0 : Below w.heap.size w (w.alloc (.cells #[.int .u64 s] 84)) := (Below.refl _ _).alloc (Nat.le_refl _) _
  obtain ⟨q, cap, z, c0, hr⟩ := hB
  have hcc := containsC_any n s w.heap.size q cap cs (w.alloc (.cells #[.int .u64 s] 84)) hc hs ⟨by simp, by simp⟩ (hr.below (Nat.le_refl _) hb0)
  have HCC := Lib.hid hcc
  have HB := Lib.hid hb0
  clear hcc hb0 hr hs hc
  go_enter Tryz.func111, Tryz.ntmps111
  go_wp2_with (go_at_call 112; refine HCC.out.mono ?_; rintro e w' ⟨rfl, hb⟩)
  go_ret
  exact ⟨rfl, HB.out.on hb⟩
/-- another set within a set -/
def smaller (s t : Nat) : Bool := t != s && t &&& s == t
theorem payer2_any (s t B : Nat) (w : World) (hs : s < 64) (ht : t < 64) (hB : SetAt w B s) :
    Calls Tryz.prog 115 #[.int .u64 t, .pointer (some ⟨B, 0, none⟩)] w fun e w' => e = .returned (.bool (smaller s t)) ∧ w = w' := by
  obtain ⟨z0, c0⟩ := hB
  by_cases h0 : t = s
  · subst h0
    go_enter Tryz.func115, Tryz.ntmps115
    go_wp2_with (go_at_call 116; refine (within_any t t _ ht hs).mono ?_; rintro e w1 ⟨rfl, rfl⟩)
    go_ret
    exact ⟨ret_bool (by simp [smaller]), rfl⟩
  · have hb : ((t : Int) != (s : Int)) = true := by
      have : (t : Int) ≠ (s : Int) := by omega
      simpa using this
    go_enter Tryz.func115, Tryz.ntmps115
    go_wp2_with (go_at_call 116; refine (within_any t s _ ht hs).mono ?_; rintro e w1 ⟨rfl, rfl⟩)
    go_ret
    exact ⟨ret_bool (by simp [smaller, h0]), rfl⟩
theorem ent_payer1 : Enters 111 := fun args w => by kernel_rfl
theorem ent_payer2 : Enters 115 := fun args w => by kernel_rfl
theorem containsS_any (B pf : Nat) (lb : Array Value) (p : Nat → Bool) (eg : Enters pf) (q : Option Addr) (cap : Nat) (xs : List Nat) (w : World) (hB : B ≤ w.heap.size) (ht : TestS B w pf lb p xs) (hr : RowV w q (flatU xs)) (hl : xs.length ≤ 1000) :
    Calls Tryz.prog 114 #[.slice q xs.length cap, .func (.func pf) #[] lb] w fun e w' => e = .returned (.bool (xs.any p)) ∧ Below w.heap.size w w' := by
  go_enter Tryz.func114, Tryz.ntmps114
  go_wp2_with (go_at_call 104; refine (indexS_any B pf lb p eg q cap xs _ hB ht hr hl).mono ?_; rintro e w' ⟨rfl, hb⟩)
  go_ret
  exact ⟨ret_bool (firstIdx_any _ _), hb⟩
theorem find_at {α : Type} (f : α → Bool) : ∀ (l : List α) (k : Nat) (d : α), AllNo f l k → k < l.length → f (l.getD k d) = true → l.find? f = some (l.getD k d)
  | [], k, _, _, h, _ => by simp at h
  | a :: l, 0, d, _, _, h => by simp at h; simp [h]
  | a :: l, k + 1, d, h, hk, hf => by
    unfold AllNo at h
    simp only [List.take_succ_cons, List.all_cons, Bool.and_eq_true, Bool.not_eq_true'] at h
    have ih := find_at f l k d h.2 (by simpa using hk) (by simpa using hf)
    rw [List.find?_cons_of_neg (by rw [h.1]; decide), ih]
    rfl
theorem find_none {α : Type} {f : α → Bool} {l : List α} (h : AllNo f l l.length) : l.find? f = none := by
  rw [List.find?_eq_none]
  intro x hx
  unfold AllNo at h
  rw [List.take_length, List.all_eq_true] at h
  simpa using h x hx
theorem payersS_eq (n : Nat) (cs : List Ch) : payersS n cs = (groupsS n 0).filter fun s => !cs.any (spentC s) := rfl
theorem payerS_eq (n : Nat) (cs : List Ch) : payerS n cs = (payersS n cs).find? fun s => !(payersS n cs).any (smaller s) := rfl
end Go.Proofs.YtadamjleglckpaaGreat.drn

/- Package drain, the walks: nextPayer. -/
namespace Go.Proofs.YtadamjleglckpaaGreat.drn
open Go.RowKit
set_option linter.unusedSimpArgs false
set_option linter.unusedVariables false

set_option maxRecDepth 100000 in
set_option maxHeartbeats 1000000 in
theorem nextPayer_any (n : Nat) (q : Option Addr) (m c : Nat) (q3 : Option Addr) (c3 : Nat) (cs : List Ch) (w : World) (hc : Chs n cs) (hr : RowV w q3 (flatC n cs)) :
    Calls Tryz.prog 76 #[hillV n q m c, .slice q3 cs.length c3] w fun e w' => e = .returned (.tuple #[.int .u64 ((payerS n cs).getD 0 : Nat), .bool (payerS n cs).isSome]) ∧ Below w.heap.size w w' := by
  have bE : ∀ (W : World) (o : Obj), Below W.heap.size W (W.alloc o) := fun W o => (Below.refl _ _).alloc (Nat.le_refl _) _
  have hb0 : Below w.heap.size w ((w.alloc (.cells #[.int .i64 n, .slice q m c] 24)).alloc (.cells #[.slice q3 cs.length c3] 87)) := (bE _ _).on (bE _ _)
  have hin : ChsAt ((w.alloc (.cells #[.int .i64 n, .slice q m c] 24)).alloc (.cells #[.slice q3 cs.length c3] 87)) (w.heap.size + 1) n cs := ⟨q3, c3, by simp, by simp, hr.below (Nat.le_refl _) hb0⟩
  have hgo := groupsOf_any n q m c ((w.alloc (.cells #[.int .i64 n, .slice q m c] 24)).alloc (.cells #[.slice q3 cs.length c3] 87)) hc.n6
  have hgl : (groupsS n 0).length ≤ 1000 := by
    rw [groupsS_len]
    have : 2 ^ n ≤ 64 := Nat.pow_le_pow_right (by decide) hc.n6
    omega
  have hmem : ∀ s ∈ groupsS n 0, s < 2 ^ n := fun s hs => (mem_groups.1 hs).2
  have hpm : ∀ s ∈ payersS n cs, s < 64 := fun s hs => pow_64 hc.n6 (hmem s (List.mem_filter.1 hs).1)
  have hpl : (payersS n cs).length ≤ 1000 := Nat.le_trans (List.length_filter_le _ _) hgl
  unfold hillV at *
  have HB := Lib.hid hb0
  have HIN := Lib.hid hin
  have HGO := Lib.hid hgo
  have HMEM := Lib.hid hmem
  have HPM := Lib.hid hpm
  have HC := Lib.hid hc
  have HEQ := Lib.hid (payersS_eq n cs)
  have HPE := Lib.hid (payerS_eq n cs)
  clear hb0 hin hgo hmem hpm hr hc bE
  go_enter Tryz.func76, Tryz.ntmps76
  go_wp2_with (go_at_call 57; refine HGO.out.mono ?_; rintro e wG ⟨vG, rfl, hownG, hbG⟩)
  have hts : TestS ((w.alloc (.cells #[.int .i64 n, .slice q m c] 24)).alloc (.cells #[.slice q3 cs.length c3] 87)).heap.size wG 111 #[.pointer (some ⟨w.heap.size + 1, 0, none⟩)] (fun s => cs.any (spentC s)) (groupsS n 0) :=
    fun W s hs hb hB => payer1_any n s _ cs W HC.out (HMEM.out s hs) (HIN.out.below (Nat.le_refl _) (hbG.trans hb))
  have hdel := deleteS_any _ 111 _ _ ent_payer1 vG (groupsS n 0) wG hbG.size hts hownG hgl
  rw [← HEQ.out] at hdel
  obtain ⟨P, hP⟩ : ∃ P, payersS n cs = P := ⟨_, rfl⟩
  rw [hP] at hdel HPM hpl HPE
  have hacG : Below w.heap.size w wG := HB.out.on hbG
  have HDEL := Lib.hid hdel
  have hszC := HB.out.size
  clear hts hdel hownG hP HEQ hgl
  go_at_call 56
  refine HDEL.out.mono ?_
  rintro e wD ⟨vD, rfl, hownD, hbD⟩
  dsimp only
  have hacD : Below w.heap.size w wD := hacG.trans (hbD.mono hszC)
  obtain ⟨qD, cD, rfl, hrowD, _, _⟩ := rowV_of_owns hownD (by intro h; rw [List.length_eq_zero_iff] at h; rw [h]; rfl)
  clear hownD HDEL hbD hbG
  go_wp2
  go_loopw [17] (fun i wr => ∃ k : Nat, k ≤ P.length ∧ i = .int .i64 k ∧ AllNo (fun s => !P.any (smaller s)) P k ∧ Below wD.heap.size wD wr) (fun i _ => P.length - (intOf i).toNat)
  case atStart => exact ⟨0, Nat.zero_le _, rfl, AllNo.zero _ _, Below.refl _ _⟩
  case round =>
    obtain ⟨k, hk, rfl, hall, hbel⟩ := hrel
    by_cases hlt : k < P.length
    · obtain ⟨b, off, rfl, hb, h1⟩ := rowU_at hrowD hlt (Nat.le_refl _) hbel
      have hst := hall.step hlt 0
      have hfi := fun h => find_at (fun s => !P.any (smaller s)) P k 0 hall hlt h
      have hm := getD_mem P k 0 hlt
      generalize P.getD k 0 = s at h1 hst hm hfi
      have hs64 := HPM.out s hm
      have hbA : Below wr.heap.size wr (wr.alloc (.cells #[.int .u64 s] 84)) := (Below.refl _ _).alloc (Nat.le_refl _) _
      have hsat : SetAt (wr.alloc (.cells #[.int .u64 s] 84)) wr.heap.size s := ⟨by simp, by simp⟩
      have hcs := containsS_any (wr.alloc (.cells #[.int .u64 s] 84)).heap.size 115 #[.pointer (some ⟨wr.heap.size, 0, none⟩)] (smaller s) ent_payer2 (some ⟨b, off, none⟩) cD P (wr.alloc (.cells #[.int .u64 s] 84)) (Nat.le_refl _)
        (fun W t ht hb hB => (payer2_any s t _ W hs64 (HPM.out t ht) (hsat.below (Nat.le_refl _) hb)).mono (by rintro e W' ⟨h, rfl⟩; exact ⟨h, Below.refl _ _⟩)) (hrowD.below (Nat.le_refl _) (hbel.on hbA)) hpl
      obtain ⟨y, hy⟩ : ∃ y, P.any (smaller s) = y := ⟨_, rfl⟩
      rw [hy] at hcs
      simp only [hy] at hst hfi
      have HST := Lib.hid hst
      have HFI := Lib.hid hfi
      have HCS := Lib.hid hcs
      have hzr := hbel.size
      clear hst hfi hcs hall hsat hy
      cases y with
      | true =>
        go_wp2_with (go_at_call 114; refine HCS.out.mono ?_; rintro e w2 ⟨rfl, hb2⟩)
        go_roundw
        case rel => exact ⟨k + 1, hlt, by go_num, HST.out.1 rfl, hbel.on (hbA.on hb2)⟩
        case measure => simp [intOf]; omega
      | false =>
        go_wp2_with (go_at_call 114; refine HCS.out.mono ?_; rintro e w2 ⟨rfl, hb2⟩; obtain ⟨hc2, hf2⟩ := bcell hb2)
        have hfin : payerS n cs = some s := by rw [HPE.out]; exact HFI.out rfl
        have HF := Lib.hid hfin
        clear hfin
        go_ret2
        exact ⟨by rw [HF.out]; rfl, hacD.on (hbel.on (hbA.on hb2))⟩
    · obtain rfl : k = P.length := by omega
      have hfin : payerS n cs = none := by rw [HPE.out]; exact find_none hall
      have HF := Lib.hid hfin
      clear hfin hall
      go_wp2
      go_ret2
      exact ⟨by rw [HF.out]; rfl, hacD.on hbel⟩
end Go.Proofs.YtadamjleglckpaaGreat.drn

/- Package drain, the walks: dues in memory; checkDues. -/
namespace Go.Proofs.YtadamjleglckpaaGreat.drn
open Go.RowKit
set_option linter.unusedSimpArgs false
set_option linter.unusedVariables false

abbrev Du := List Int × Int
/-- dues, cell by cell: the values of the groups, and what they pay -/
def flatD : List Value → List Du → List Value
  | v :: vs, d :: ds => v :: .int .i64 d.2 :: flatD vs ds
  | _, _ => []
theorem flatD_get : ∀ (vs : List Value) (ds : List Du) (i : Nat) (v : Value), vs[i]? = some v → i < ds.length → (flatD vs ds)[i * 2]? = some v ∧ (flatD vs ds)[i * 2 + 1]? = some (.int .i64 (ds.getD i ([], 0)).2)
  | [], _, i, v, h, _ => by simp at h
  | _ :: _, [], i, v, _, h => by simp at h
  | u :: vs, d :: ds, 0, v, h, _ => by simp at h; subst h; simp [flatD]
  | u :: vs, d :: ds, i + 1, v, h, hi => by
    have ih := flatD_get vs ds i v (by simpa using h) (by simpa using hi)
    rw [show (i + 1) * 2 = i * 2 + 1 + 1 from by omega]
    simpa [flatD] using ih
/-- a list in memory, wherever -/
def ListR (w : World) (v : Value) (l : List Int) : Prop := ∃ q c, v = .slice q l.length c ∧ RowV w q (flatI l)
theorem ListR.below {w w' : World} {v : Value} {l : List Int} (h : ListR w v l) {N : Nat} (hN : w.heap.size ≤ N) (hb : Below N w w') : ListR w' v l := by
  obtain ⟨q, c, e, h1⟩ := h
  exact ⟨q, c, e, h1.below hN hb⟩
/-- dues in memory -/
structure DuesAt (w : World) (q : Option Addr) (vs : List Value) (ds : List Du) : Prop where
  row : RowV w q (flatD vs ds)
  groups : InL (ListR w) vs (ds.map (·.1))
theorem DuesAt.below {w w' : World} {q : Option Addr} {vs : List Value} {ds : List Du} (h : DuesAt w q vs ds) {N : Nat} (hN : w.heap.size ≤ N) (hb : Below N w w') : DuesAt w' q vs ds :=
  ⟨h.row.below hN hb, InL.mono (fun v l h => h.below hN hb) h.groups⟩
theorem DuesAt.at {w : World} {q : Option Addr} {vs : List Value} {ds : List Du} (h : DuesAt w q vs ds) {k : Nat} (hk : k < ds.length) :
    ∃ b off qg cg, q = some ⟨b, off, none⟩ ∧ b < w.heap.size ∧ w.cell? ⟨b, off + k * 2, none⟩ = some (.slice qg (ds.getD k ([], 0)).1.length cg) ∧ w.cell? ⟨b, off + k * 2 + 1, none⟩ = some (.int .i64 (ds.getD k ([], 0)).2) ∧ RowV w qg (flatI (ds.getD k ([], 0)).1) := by
  obtain ⟨v, hv, qg, cg, e, hg⟩ := InL.get k h.groups (by simpa using hk)
  have hmap : (ds.map (·.1)).getD k [] = (ds.getD k ([], 0)).1 := by
    rw [getD_eq _ k [] (by simpa using hk), getD_eq ds k ([], 0) hk]
    simp
  rw [hmap] at e hg
  obtain ⟨g1, g2⟩ := flatD_get vs ds k v hv hk
  rcases h.row with hn | ⟨b, off, eq, hz, hc⟩
  · rw [hn] at g1; simp at g1
  · subst e
    exact ⟨b, off, qg, cg, eq, hz, hc _ _ g1, by rw [Nat.add_assoc]; exact hc _ _ g2, hg⟩

theorem dsErr_at (n : Int) (ds : List Du) (k : Nat) (hk : k < ds.length) : dsErr n (ds.drop k) =
    if grErr n (ds.getD k ([], 0)).1 ≠ 0 then grErr n (ds.getD k ([], 0)).1 else if (ds.getD k ([], 0)).2 < 1 ∨ 280 < (ds.getD k ([], 0)).2 then 1 else dsErr n (ds.drop (k + 1)) := by
  rw [List.drop_eq_getElem_cons hk, ← getD_eq ds k ([], 0) hk]
  rfl

set_option maxRecDepth 100000 in
set_option maxHeartbeats 1000000 in
theorem checkDues_any (n : Int) (q : Option Addr) (m c : Nat) (q2 : Option Addr) (cap : Nat) (vs : List Value) (ds : List Du) (w : World) (hd : DuesAt w q2 vs ds) (hl : ds.length ≤ 1000000) (hg : ∀ d ∈ ds, d.1.length ≤ 1000000) :
    Calls Tryz.prog 102 #[hillV n q m c, .slice q2 ds.length cap] w fun e w' => e = .returned (.int .i64 (duErr n ds)) ∧ Below w.heap.size w w' := by
  unfold hillV
  have hb0 : Below w.heap.size w (w.alloc (.cells #[.int .i64 n, .slice q m c] 24)) := (Below.refl _ _).alloc (Nat.le_refl _) _
  by_cases h20 : 20 < ds.length
  · have h20i : (20 : Int) < (ds.length : Int) := by omega
    have HG := Lib.hid (show duErr n ds = 3 by rw [duErr, if_pos h20])
    have HB := Lib.hid hb0
    clear h20 hb0 hd hg
    go_enter Tryz.func102, Tryz.ntmps102
    go_wp2
    go_ret
    exact ⟨ret_int (by rw [HG.out]), HB.out⟩
  · have h20i : ¬ (20 : Int) < (ds.length : Int) := by omega
    have HDU := Lib.hid (show duErr n ds = dsErr n ds by rw [duErr, if_neg h20])
    have hd0 := hd.below (Nat.le_refl _) hb0
    have HB := Lib.hid hb0
    have HD := Lib.hid hd0
    have HGL := Lib.hid hg
    clear h20 hb0 hd hd0 hg
    go_enter Tryz.func102, Tryz.ntmps102
    go_wp2
    clear h20i
    obtain ⟨W0, hW0⟩ : ∃ W0, w.alloc (.cells #[.int .i64 n, .slice q m c] 24) = W0 := ⟨_, rfl⟩
    have hz0 : w.heap.size < W0.heap.size := by rw [← hW0]; simp
    have hc0 : W0.cell? ⟨w.heap.size, 0, none⟩ = some (.int .i64 n) ∧ W0.cell? ⟨w.heap.size, 1, none⟩ = some (.slice q m c) := by rw [← hW0]; simp
    obtain ⟨c0, c1⟩ := hc0
    rw [hW0] at HB HD ⊢
    clear hW0
    go_loopw [13] (fun i wr => ∃ k : Nat, k ≤ ds.length ∧ i = .int .i64 k ∧ dsErr n (ds.drop k) = dsErr n ds ∧ Below W0.heap.size W0 wr) (fun i _ => ds.length - (intOf i).toNat)
    case atStart => exact ⟨0, Nat.zero_le _, rfl, rfl, Below.refl _ _⟩
    case round =>
      obtain ⟨k, hk, rfl, hrest, hbel⟩ := hrel
      by_cases hlt : k < ds.length
      · obtain ⟨b, off, qg, cg, rfl, hb, h1, h2, h3⟩ := (HD.out.below (Nat.le_refl _) hbel).at hlt
        have hst := dsErr_at n ds k hlt
        rw [hrest, ← HDU.out] at hst
        have hgl := HGL.out _ (getD_mem ds k ([], 0) hlt)
        generalize ds.getD k ([], 0) = d at h1 h2 h3 hst hgl
        obtain ⟨gr, py⟩ := d
        dsimp only at *
        have d0 : wr.cell? ⟨w.heap.size, 0, none⟩ = some (.int .i64 n) := (hbel.cell (p := ⟨w.heap.size, 0, none⟩) hz0).trans c0
        have d1 : wr.cell? ⟨w.heap.size, 1, none⟩ = some (.slice q m c) := (hbel.cell (p := ⟨w.heap.size, 1, none⟩) hz0).trans c1
        have hzr := hbel.size
        have hz1 : w.heap.size < wr.heap.size := Nat.lt_of_lt_of_le hz0 hzr
        have hcg := fun W hb => checkGroup_any n q m c qg cg gr W (h3.below (Nat.le_refl _) hb) hgl
        unfold hillV at hcg
        have HST := Lib.hid hst
        have HCG := Lib.hid hcg
        have HRE := Lib.hid hrest
        have hbA : Below wr.heap.size wr (wr.alloc (.cells #[.slice qg gr.length cg, .int .i64 py] 56)) := (Below.refl _ _).alloc (Nat.le_refl _) _
        have HBA := Lib.hid hbA
        clear hst hcg hrest c0 c1 h3 hgl hbA
        by_cases hpy : py < 1
        · go_wp2_with (go_at_call 65; refine (HCG.out _ HBA.out).mono ?_; rintro e w1 ⟨rfl, hb1⟩; obtain ⟨hc1, hf1⟩ := bcell hb1; have hac : Below wr.heap.size wr w1 := HBA.out.on hb1; have hz3 : wr.heap.size < w1.heap.size := (by have := hb1.size; simp at this; omega))
          · have hne : grErr n gr ≠ 0 := by simpa using (by assumption : (grErr n gr != 0) = true)
            go_ret
            exact ⟨ret_int (by rw [HST.out, if_pos hne]), HB.out.on (hbel.on hac)⟩
          · have hne : grErr n gr = 0 := by simpa using (by assumption : (grErr n gr != 0) = false)
            go_ret
            exact ⟨ret_int (by rw [HST.out, if_neg (fun h => h hne), if_pos (.inl hpy)]), HB.out.on (hbel.on hac)⟩
        · by_cases hpy2 : 280 < py
          · go_wp2_with (go_at_call 65; refine (HCG.out _ HBA.out).mono ?_; rintro e w1 ⟨rfl, hb1⟩; obtain ⟨hc1, hf1⟩ := bcell hb1; have hac : Below wr.heap.size wr w1 := HBA.out.on hb1; have hz3 : wr.heap.size < w1.heap.size := (by have := hb1.size; simp at this; omega))
            · have hne : grErr n gr ≠ 0 := by simpa using (by assumption : (grErr n gr != 0) = true)
              go_ret
              exact ⟨ret_int (by rw [HST.out, if_pos hne]), HB.out.on (hbel.on hac)⟩
            · have hne : grErr n gr = 0 := by simpa using (by assumption : (grErr n gr != 0) = false)
              go_ret
              exact ⟨ret_int (by rw [HST.out, if_neg (fun h => h hne), if_pos (.inr hpy2)]), HB.out.on (hbel.on hac)⟩
          · go_wp2_with (go_at_call 65; refine (HCG.out _ HBA.out).mono ?_; rintro e w1 ⟨rfl, hb1⟩; obtain ⟨hc1, hf1⟩ := bcell hb1; have hac : Below wr.heap.size wr w1 := HBA.out.on hb1; have hz3 : wr.heap.size < w1.heap.size := (by have := hb1.size; simp at this; omega))
            · have hne : grErr n gr ≠ 0 := by simpa using (by assumption : (grErr n gr != 0) = true)
              go_ret
              exact ⟨ret_int (by rw [HST.out, if_pos hne]), HB.out.on (hbel.on hac)⟩
            · have hne : grErr n gr = 0 := by simpa using (by assumption : (grErr n gr != 0) = false)
              have hfin : dsErr n (ds.drop (k + 1)) = dsErr n ds := by rw [← HDU.out, HST.out, if_neg (fun h => h hne), if_neg (by omega)]
              have HFIN := Lib.hid hfin
              clear hfin hpy hpy2
              first
              | (go_roundw
                 case rel => exact ⟨k + 1, hlt, by go_num, HFIN.out, hbel.on hac⟩
                 case measure => simp [intOf]; omega)
              | exact ⟨⟨k + 1, hlt, by go_num, HFIN.out, hbel.on hac⟩, by simp [intOf]; omega⟩
      · obtain rfl : k = ds.length := by omega
        go_wp2
        go_ret
        exact ⟨ret_int (by rw [HDU.out, ← hrest, List.drop_length]; rfl), HB.out.on hbel⟩
end Go.Proofs.YtadamjleglckpaaGreat.drn

/- Package drain, the walks: Charged. -/
namespace Go.Proofs.YtadamjleglckpaaGreat.drn
open Go.RowKit
set_option linter.unusedSimpArgs false
set_option linter.unusedVariables false

theorem dsErr_ok {n : Int} : ∀ {ds : List Du}, dsErr n ds = 0 → ∀ d ∈ ds, grErr n d.1 = 0 ∧ 1 ≤ d.2 ∧ d.2 ≤ 280
  | [], _, d, h => by cases h
  | e :: r, h, d, hd => by
    rw [dsErr] at h
    by_cases hg : grErr n e.1 = 0
    · rw [if_neg (fun h => h hg)] at h
      by_cases hp : e.2 < 1 ∨ 280 < e.2
      · rw [if_pos hp] at h; cases h
      · rw [if_neg hp] at h
        rcases List.mem_cons.1 hd with rfl | hd
        · exact ⟨hg, by omega, by omega⟩
        · exact dsErr_ok h d hd
    · rw [if_pos hg] at h; exact absurd h hg
theorem duErr_ok {n : Int} {ds : List Du} (h : duErr n ds = 0) : ds.length ≤ 20 ∧ ∀ d ∈ ds, grErr n d.1 = 0 ∧ 1 ≤ d.2 ∧ d.2 ≤ 280 := by
  unfold duErr at h
  by_cases h20 : 20 < ds.length
  · rw [if_pos h20] at h; cases h
  · rw [if_neg h20] at h
    exact ⟨by omega, dsErr_ok h⟩
def chargeOne (ds : List Du) (c : Ch) : Int := ds.foldl (fun k d => if leavesS (setS d.1) c then k + d.2 else k) 0
theorem chargeS_eq (cs : List Ch) (ds : List Du) : chargeS cs ds = cs.map (chargeOne ds) := rfl
theorem charge_bd (c : Ch) : ∀ (ds : List Du), (∀ d ∈ ds, 1 ≤ d.2 ∧ d.2 ≤ 280) → 0 ≤ chargeOne ds c ∧ chargeOne ds c ≤ 280 * ds.length := by
  have key : ∀ (ds : List Du) (k : Int), (∀ d ∈ ds, 1 ≤ d.2 ∧ d.2 ≤ 280) → k ≤ ds.foldl (fun k d => if leavesS (setS d.1) c then k + d.2 else k) k ∧ ds.foldl (fun k d => if leavesS (setS d.1) c then k + d.2 else k) k ≤ k + 280 * ds.length := by
    intro ds
    induction ds with
    | nil => intro k _; simp
    | cons d r ih =>
      intro k h
      rw [List.foldl_cons, List.length_cons]
      have hd := h d (by simp)
      by_cases hl : leavesS (setS d.1) c = true
      · rw [if_pos hl]
        obtain ⟨a, b⟩ := ih (k + d.2) (fun e he => h e (by simp [he]))
        constructor <;> omega
      · rw [if_neg hl]
        obtain ⟨a, b⟩ := ih k (fun e he => h e (by simp [he]))
        constructor <;> omega
  intro ds h
  obtain ⟨a, b⟩ := key ds 0 h
  exact ⟨a, by unfold chargeOne; omega⟩
theorem charge_step (ds : List Du) (j : Nat) (hj : j < ds.length) (c : Ch) : chargeOne (ds.take (j + 1)) c = if leavesS (setS (ds.getD j ([], 0)).1) c then chargeOne (ds.take j) c + (ds.getD j ([], 0)).2 else chargeOne (ds.take j) c := by
  unfold chargeOne
  rw [foldl_take _ _ ds j ([], 0) hj]
theorem rangeF_mem (p : Nat → Bool) (k : Nat) (x : Int) : x ∈ rangeF p k ↔ ∃ i : Nat, i < k ∧ p i = true ∧ x = i := by
  unfold rangeF
  rw [List.mem_map]
  constructor
  · rintro ⟨i, hi, rfl⟩
    obtain ⟨h1, h2⟩ := List.mem_filter.1 hi
    exact ⟨i, List.mem_range.1 h1, h2, rfl⟩
  · rintro ⟨i, h1, h2, rfl⟩
    exact ⟨i, List.mem_filter.2 ⟨List.mem_range.2 h1, h2⟩, rfl⟩
theorem rangeF_nodup (p : Nat → Bool) (k : Nat) : (rangeF p k).Pairwise (· < ·) := by
  unfold rangeF
  rw [List.pairwise_map]
  exact (List.Pairwise.sublist List.filter_sublist (List.pairwise_lt_range (n := k))).imp fun h => by omega
theorem not_in_take {L : List Int} (h : L.Pairwise (· < ·)) {t : Nat} (ht : t < L.length) : L.getD t 0 ∉ L.take t := by
  intro hm
  obtain ⟨i, hi, e⟩ := List.getElem_of_mem hm
  rw [List.length_take] at hi
  rw [List.getElem_take, getD_eq L t 0 ht] at e
  have := List.pairwise_iff_getElem.1 h i t (by omega) ht (by omega)
  omega
theorem flatI_set (C : List Int) (i : Nat) (s : Int) : (flatI C).set i (.int .i64 s) = flatI (C.set i s) := by unfold flatI; rw [List.map_set]

/-- where Charged's inner loop stands: the first t of the channels that leave have been charged -/
def Part (cur L cl : List Int) (t : Nat) (py : Int) : Prop := cl.length = cur.length ∧ ∀ i : Nat, i < cur.length → cl.getD i 0 = cur.getD i 0 + if (i : Int) ∈ L.take t then py else 0
theorem Part.step {cur L cl : List Int} {t : Nat} {py : Int} {x : Nat} (h : Part cur L cl t py) (hL : L.Pairwise (· < ·)) (ht : t < L.length) (hx : L.getD t 0 = x) (hxl : x < cur.length) : Part cur L (cl.set x (cl.getD x 0 + py)) (t + 1) py := by
  obtain ⟨h1, h2⟩ := h
  refine ⟨by simpa using h1, fun i hi => ?_⟩
  rw [getD_take L t 0 ht, hx]
  have hnot := not_in_take hL ht
  rw [hx] at hnot
  by_cases hix : i = x
  · subst hix
    rw [List.getD_eq_getElem?_getD, List.getElem?_set_self (by omega), Option.getD_some, h2 i hi, if_neg hnot, if_pos (by simp)]
    omega
  · rw [List.getD_eq_getElem?_getD, List.getElem?_set_ne (fun e => hix e.symm), ← List.getD_eq_getElem?_getD, h2 i hi]
    have : ((i : Int) ∈ L.take t ++ [(x : Int)]) ↔ (i : Int) ∈ L.take t := by
      simp only [List.mem_append, List.mem_singleton]
      constructor
      · rintro (h | h)
        · exact h
        · exact absurd (by omega) hix
      · exact .inl
    by_cases hm : (i : Int) ∈ L.take t
    · rw [if_pos hm, if_pos (this.2 hm)]
    · rw [if_neg hm, if_neg (fun h => hm (this.1 h))]
theorem Part.full {cs : List Ch} {ds : List Du} {j : Nat} {cl : List Int} (hj : j < ds.length) (h : Part (chargeS cs (ds.take j)) (leavingS cs (setS (ds.getD j ([], 0)).1)) cl (leavingS cs (setS (ds.getD j ([], 0)).1)).length (ds.getD j ([], 0)).2) : cl = chargeS cs (ds.take (j + 1)) := by
  obtain ⟨h1, h2⟩ := h
  have hl : (chargeS cs (ds.take j)).length = cs.length := by simp [chargeS]
  apply List.ext_getElem
  · rw [h1, hl]; simp [chargeS]
  · intro i hi hi2
    have hic : i < cs.length := by omega
    have h3 := h2 i (by omega)
    rw [getD_eq cl i 0 hi] at h3
    rw [h3]
    have e1 : (chargeS cs (ds.take j)).getD i 0 = chargeOne (ds.take j) cs[i] := by
      rw [getD_eq _ i 0 (by omega)]; simp [chargeS_eq]
    have e2 : (chargeS cs (ds.take (j + 1)))[i] = chargeOne (ds.take (j + 1)) cs[i] := by simp [chargeS_eq]
    rw [e1, e2, charge_step ds j hj, List.take_length]
    have hm : ((i : Int) ∈ leavingS cs (setS (ds.getD j ([], 0)).1)) ↔ leavesS (setS (ds.getD j ([], 0)).1) cs[i] = true := by
      rw [leavingS_eq, rangeF_mem]
      constructor
      · rintro ⟨k, hk, hp, e⟩
        obtain rfl : k = i := by omega
        rw [getD_eq cs k (0, 0, 0) hk] at hp
        exact hp
      · intro h
        exact ⟨i, hic, by rw [getD_eq cs i (0, 0, 0) hic]; exact h, rfl⟩
    by_cases hlv : leavesS (setS (ds.getD j ([], 0)).1) cs[i] = true
    · rw [if_pos hlv, if_pos (hm.2 hlv)]
    · rw [if_neg hlv, if_neg (fun h => hlv (hm.1 h))]
      omega
end Go.Proofs.YtadamjleglckpaaGreat.drn

/- Package drain, the walks: pay. -/
namespace Go.Proofs.YtadamjleglckpaaGreat.drn
open Go.RowKit
set_option linter.unusedSimpArgs false
set_option linter.unusedVariables false

def minL (cs : List Ch) (l : List Int) (m : Int) : Int := l.foldl (fun m i => min m (cs.getD i.toNat (0, 0, 0)).2.2) m
theorem leaving_map (cs : List Ch) (s : Nat) : (leavingS cs s).map (fun i : Int => cs.getD i.toNat (0, 0, 0)) = cs.filter (leavesS s) := by
  unfold leavingS
  rw [List.map_map]
  have h : ∀ (l : List Ch) (pre : List Ch), pre ++ l = cs → ((List.range' pre.length l.length).filter fun i => leavesS s (cs.getD i (0, 0, 0))).map (fun i => cs.getD i (0, 0, 0)) = l.filter (leavesS s) := by
    intro l
    induction l with
    | nil => intro pre _; rfl
    | cons c r ih =>
      intro pre e
      have hc : cs.getD pre.length (0, 0, 0) = c := by rw [← e]; simp
      have h2 := ih (pre ++ [c]) (by rw [← e]; simp)
      rw [List.length_append, List.length_singleton] at h2
      rw [List.length_cons, List.range'_succ, List.filter_cons, List.filter_cons, hc]
      by_cases hl : leavesS s c = true
      · rw [if_pos hl, if_pos hl, List.map_cons, hc, h2]
      · rw [if_neg hl, if_neg hl, h2]
  have h0 := h cs [] rfl
  rw [List.range_eq_range']
  simpa [Function.comp_def] using h0
theorem least_minL (cs : List Ch) (s : Nat) : leastLeft cs s = minL cs (leavingS cs s) 9223372036854775807 := by
  unfold leastLeft minL
  rw [← leaving_map, List.foldl_map]
theorem minL_take (cs : List Ch) (l : List Int) (k : Nat) (h : k < l.length) (m : Int) : minL cs (l.take (k + 1)) m = min (minL cs (l.take k) m) (cs.getD (l.getD k 0).toNat (0, 0, 0)).2.2 := by
  unfold minL
  rw [foldl_take _ _ l k 0 h]
theorem minL_bd (cs : List Ch) : ∀ (l : List Int) (m : Int), (∀ i ∈ l, 0 ≤ (cs.getD i.toNat (0, 0, 0)).2.2 ∧ (cs.getD i.toNat (0, 0, 0)).2.2 ≤ 20) → 0 ≤ m → 0 ≤ minL cs l m ∧ minL cs l m ≤ m ∧ ∀ i ∈ l, minL cs l m ≤ (cs.getD i.toNat (0, 0, 0)).2.2
  | [], m, _, h => ⟨h, Int.le_refl _, by simp⟩
  | i :: r, m, hb, h => by
    have hi := hb i (by simp)
    obtain ⟨a, b, c⟩ := minL_bd cs r (min m (cs.getD i.toNat (0, 0, 0)).2.2) (fun j hj => hb j (by simp [hj])) (by omega)
    have e : minL cs (i :: r) m = minL cs r (min m (cs.getD i.toNat (0, 0, 0)).2.2) := rfl
    rw [e]
    refine ⟨a, by omega, fun j hj => ?_⟩
    rcases List.mem_cons.1 hj with rfl | hj
    · omega
    · exact c j hj
/-- the channels, of the first t of some so much taken away -/
def PartC (cs : List Ch) (L : List Int) (cur : List Ch) (t : Nat) (k : Int) : Prop :=
  cur.length = cs.length ∧ ∀ i : Nat, i < cs.length → cur.getD i (0, 0, 0) = if (i : Int) ∈ L.take t then ((cs.getD i (0, 0, 0)).1, (cs.getD i (0, 0, 0)).2.1, (cs.getD i (0, 0, 0)).2.2 - k) else cs.getD i (0, 0, 0)
theorem PartC.now {cs : List Ch} {L : List Int} {cur : List Ch} {t : Nat} {k : Int} {x : Nat} (h : PartC cs L cur t k) (hL : L.Pairwise (· < ·)) (ht : t < L.length) (hx : L.getD t 0 = x) (hxl : x < cs.length) : cur.getD x (0, 0, 0) = cs.getD x (0, 0, 0) := by
  have hnot := not_in_take hL ht
  rw [hx] at hnot
  rw [h.2 x hxl, if_neg hnot]
theorem PartC.step {cs : List Ch} {L : List Int} {cur : List Ch} {t : Nat} {k : Int} {x : Nat} (h : PartC cs L cur t k) (hL : L.Pairwise (· < ·)) (ht : t < L.length) (hx : L.getD t 0 = x) (hxl : x < cs.length) :
    PartC cs L (cur.set x ((cs.getD x (0, 0, 0)).1, (cs.getD x (0, 0, 0)).2.1, (cs.getD x (0, 0, 0)).2.2 - k)) (t + 1) k := by
  obtain ⟨h1, h2⟩ := h
  refine ⟨by simpa using h1, fun i hi => ?_⟩
  rw [getD_take L t 0 ht, hx]
  by_cases hix : i = x
  · subst hix
    rw [List.getD_eq_getElem?_getD, List.getElem?_set_self (by omega), Option.getD_some, if_pos (by simp)]
  · rw [List.getD_eq_getElem?_getD, List.getElem?_set_ne (fun e => hix e.symm), ← List.getD_eq_getElem?_getD, h2 i hi]
    have : ((i : Int) ∈ L.take t ++ [(x : Int)]) ↔ (i : Int) ∈ L.take t := by
      simp only [List.mem_append, List.mem_singleton]
      constructor
      · rintro (h | h)
        · exact h
        · exact absurd (by omega) hix
      · exact .inl
    by_cases hm : (i : Int) ∈ L.take t
    · rw [if_pos hm, if_pos (this.2 hm)]
    · rw [if_neg hm, if_neg (fun h => hm (this.1 h))]
theorem leaving_mem {cs : List Ch} {s i : Nat} (hi : i < cs.length) : ((i : Int) ∈ leavingS cs s) ↔ leavesS s (cs.getD i (0, 0, 0)) = true := by
  rw [leavingS_eq, rangeF_mem]
  constructor
  · rintro ⟨k, hk, hp, e⟩
    obtain rfl : k = i := by omega
    exact hp
  · intro h
    exact ⟨i, hi, h, rfl⟩
theorem PartC.full {cs : List Ch} {s : Nat} {cur : List Ch} {k : Int} (h : PartC cs (leavingS cs s) cur (leavingS cs s).length k) : cur = takeLeft cs s k := by
  obtain ⟨h1, h2⟩ := h
  apply List.ext_getElem
  · rw [h1]; simp [takeLeft]
  · intro i hi hi2
    have hic : i < cs.length := by omega
    have h3 := h2 i hic
    rw [getD_eq cur i (0, 0, 0) hi, List.take_length] at h3
    rw [h3]
    have e2 : (takeLeft cs s k)[i] = if leavesS s cs[i] then (cs[i].1, cs[i].2.1, cs[i].2.2 - k) else cs[i] := by simp [takeLeft]
    rw [e2]
    have hm := leaving_mem (s := s) hic
    rw [getD_eq cs i (0, 0, 0) hic] at hm ⊢
    by_cases hlv : leavesS s cs[i] = true
    · rw [if_pos hlv, if_pos (hm.2 hlv)]
    · rw [if_neg hlv, if_neg (fun h => hlv (hm.1 h))]
theorem flatC_set (n : Nat) : ∀ (cs : List Ch) (i : Nat) (v : Int), i < cs.length → (flatC n cs).set (i * 3 + 2) (.int .i64 v) = flatC n (cs.set i ((cs.getD i (0, 0, 0)).1, (cs.getD i (0, 0, 0)).2.1, v))
  | [], i, v, h => by simp at h
  | c :: r, 0, v, _ => by simp [flatC]
  | c :: r, i + 1, v, h => by
    have ih := flatC_set n r i v (by simpa using h)
    have e : flatC n (c :: r) = .int .i64 c.1 :: plV n c.2.1 :: .int .i64 c.2.2 :: flatC n r := by simp [flatC]
    have e2 : (c :: r).getD (i + 1) (0, 0, 0) = r.getD i (0, 0, 0) := rfl
    rw [e, e2, show (i + 1) * 3 + 2 = (i * 3 + 2) + 1 + 1 + 1 from by omega, List.set_cons_succ, List.set_cons_succ, List.set_cons_succ, ih, List.set_cons_succ]
    simp [flatC]
end Go.Proofs.YtadamjleglckpaaGreat.drn

