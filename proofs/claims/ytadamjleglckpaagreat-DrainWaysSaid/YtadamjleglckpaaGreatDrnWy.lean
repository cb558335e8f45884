/- DrainWays: what it says plainly; a map of ints to ints that the call makes; slices.ContainsFunc at lists with the law's closure. -/
import Derived.Test.YtadamjleglckpaaGreatDrnZ2
import Derived.Test.YtadamjleglckpaaGreatQa8
import Derived.Test.YtadamjleglckpaaGreatQa4
import Derived.Test.YtadamjleglckpaaGreatQa9
import Derived.Test.YtadamjleglckpaaGreatQa3
import Derived.Maps.Own
import Derived.Maps.OwnOps
import Derived.Maps.OwnSet
import Derived.Maps.Views
namespace Go.Proofs.YtadamjleglckpaaGreat.drn
open Go.RowKit Go.Maps
set_option linter.unusedSimpArgs false
set_option linter.unusedVariables false
/-! ways by a plan -/
theorem plan_ways {n : Nat} {cs : List Ch} (hE : errD n cs = 0) (hc : Chs n cs) {l : List Int} (hl : l ∈ plansS n cs) :
    costR n cs l = (costS cs l, 0) ∧ validOf n cs l = 0 ∧ (∀ g : Nat, g < n → wayOf n cs l g = (wayF n (chosenS cs l) n g, 0)) ∧ wayOf n cs l n = ([], 2) ∧
    OneEach n (chosenS cs l) ∧ (∀ g : Nat, g < n → reach n (chosenS cs l) n g = true) ∧ InR cs l ∧ l.length ≤ 6 := by
  have hp := (mem_plansS hc.n1 hc.ok l).1 hl
  have hv := (validOf_iff hE l).2 hp
  obtain ⟨hin, hl6⟩ := plan_in hc hp
  have heach := plan_each hc.ok hp
  have hreach := (wet_ways hc.n6 heach).1 hp.2.2
  have hw : ∀ g : Int, wayOf n cs l g = if !isGal n g then ([], 2) else (wayF n (chosenS cs l) n g, 0) := fun g => by
    unfold wayOf
    rw [if_neg (fun h => h hv)]
  refine ⟨by unfold costR; rw [if_neg (fun h => h hv)], hv, fun g hg => ?_, ?_, heach, hreach, hin, hl6⟩
  · rw [hw, if_neg]
    rw [(isGal_iff _ _).2 ⟨by omega, by omega⟩]
    decide
  · rw [hw, if_pos]
    have : isGal n (n : Int) = false := by
      cases h : isGal n (n : Int) with
      | false => rfl
      | true => have := (isGal_iff _ _).1 h; omega
    rw [this]; rfl
theorem wayF_len (n : Nat) (ch : List Ch) : ∀ (f : Nat) (g : Int), (wayF n ch f g).length ≤ f + 1
  | 0, g => by simp [wayF]
  | f + 1, g => by
    rw [wayF]
    split
    · simp
    · simp only [List.length_cons]; have := wayF_len n ch f ((ch.find? fun c => c.1 == g).elim n fun c => c.2.1); omega
theorem wayF_end (n : Nat) (ch : List Ch) (f : Nat) : wayF n ch f (n : Int) = [(n : Int)] := by cases f <;> simp [wayF]
theorem wayF_go {n : Nat} {ch : List Ch} {f h t : Nat} (hlt : h < n) (ht : nextG n ch h = t) : wayF n ch (f + 1) h = (h : Int) :: wayF n ch f t := by
  have e3 : wayF n ch (f + 1) h = if (h : Int) = n then [(h : Int)] else (h : Int) :: wayF n ch f (nextG n ch h) := rfl
  rw [e3, if_neg (by omega), ht]
/-- the pairs of a plan's channels -/
def pairsS (cs : List Ch) (l : List Int) : List (Int × Int) := l.map fun i => ((cs.getD i.toNat (0, 0, 0)).1, (cs.getD i.toNat (0, 0, 0)).2.1)
theorem pairs_next {n : Nat} {cs : List Ch} {l : List Int} (h : OneEach n (chosenS cs l)) {g : Nat} (hg : g < n) : ((g : Int), nextG n (chosenS cs l) g) ∈ pairsS cs l := by
  obtain ⟨c, hc, h1, h2⟩ := next_mem h hg
  obtain ⟨x, hx, rfl⟩ := List.mem_map.1 hc
  exact List.mem_map.2 ⟨x, hx, by rw [h2, ← h1]⟩
theorem pairs_new {n : Nat} {cs : List Ch} {l : List Int} (h : OneEach n (chosenS cs l)) {t : Nat} (ht : t < l.length) : ∀ y ∈ pairsS cs (l.take t), y.1 ≠ (cs.getD (l.getD t 0).toNat (0, 0, 0)).1 := by
  intro y hy
  obtain ⟨x, hx, rfl⟩ := List.mem_map.1 hy
  have hp := h.2.2
  unfold chosenS at hp
  rw [List.pairwise_map, List.pairwise_iff_getElem] at hp
  obtain ⟨i, hi, rfl⟩ := List.getElem_of_mem hx
  rw [List.length_take] at hi
  have := hp i t (by omega) ht (by omega)
  rw [getD_eq l t 0 ht]
  simpa using this
/-! a channel from each gallery that has one -/
structure Picked (cs : List Ch) (g : Nat) (l : List Int) : Prop where
  rng : ∀ x ∈ l, 0 ≤ x ∧ x < cs.length
  low : ∀ x ∈ l, frm cs x < g
  ne : l.Pairwise fun a b => frm cs a ≠ frm cs b
  len : l.length ≤ g
theorem Picked.zero (cs : List Ch) : Picked cs 0 [] := ⟨by simp, by simp, .nil, Nat.le_refl _⟩
theorem Picked.same {cs : List Ch} {g : Nat} {l : List Int} (h : Picked cs g l) : Picked cs (g + 1) l := ⟨h.rng, fun x hx => by have := h.low x hx; omega, h.ne, by have := h.len; omega⟩
theorem Picked.add {cs : List Ch} {g : Nat} {l : List Int} (h : Picked cs g l) {x : Int} (h1 : 0 ≤ x ∧ x < cs.length) (h2 : frm cs x = g) : Picked cs (g + 1) (l ++ [x]) := by
  refine ⟨fun y hy => ?_, fun y hy => ?_, ?_, by simp; exact h.len⟩
  · rcases List.mem_append.1 hy with hy | hy
    · exact h.rng y hy
    · rw [List.mem_singleton] at hy; subst hy; exact h1
  · rcases List.mem_append.1 hy with hy | hy
    · have := h.low y hy; omega
    · rw [List.mem_singleton] at hy; subst hy; omega
  · rw [List.pairwise_append]
    refine ⟨h.ne, by simp, fun a ha b hb => ?_⟩
    rw [List.mem_singleton] at hb
    subst hb
    have := h.low a ha
    omega
theorem picked_valid {n : Nat} {cs : List Ch} (hE : errD n cs = 0) (hc : Chs n cs) {l : List Int} (h : Picked cs n l) :
    validOf n cs (sortI l) = if (sortI l).length < n then 21 else if (plansS n cs).any (fun p => p == sortI l) = true then 0 else 13 := by
  have hp := sortI_perm l
  have hnat : ∀ x ∈ sortI l, 0 ≤ x ∧ x < cs.length := fun x hx => h.rng x (hp.mem_iff.1 hx)
  obtain ⟨L, hL⟩ : ∃ L : List Nat, L = (sortI l).map Int.toNat := ⟨_, rfl⟩
  have eL : sortI l = L.map fun i : Nat => (i : Int) := by
    rw [hL, List.map_map]
    conv => lhs; rw [← List.map_id (sortI l)]
    refine List.map_congr_left fun x hx => ?_
    have := hnat x hx
    show x = ((x.toNat : Nat) : Int)
    omega
  have hne : (sortI l).Pairwise fun a b => frm cs a ≠ frm cs b := (hp.pairwise_iff (fun {_ _} hab => fun e => hab e.symm)).2 h.ne
  have hlt : L.Pairwise (· < ·) := by
    rw [hL, List.pairwise_map]
    refine ((sortI_le l).and hne).imp_of_mem ?_
    intro a b ha hb ⟨h1, h2⟩
    have := hnat a ha
    have := hnat b hb
    have : a ≠ b := fun e => h2 (by rw [e])
    omega
  have hL2 : ∀ i ∈ L, i < cs.length := by
    intro i hi
    rw [hL] at hi
    obtain ⟨x, hx, rfl⟩ := List.mem_map.1 hi
    have := hnat x hx
    omega
  obtain ⟨m1, _⟩ := ext_of cs L 0 0 hlt (fun i hi => ⟨Nat.zero_le _, hL2 i hi, (getD_ok hc.ok (hL2 i hi)).1.1, by simp [inS]⟩) (by
    rw [hL, List.pairwise_map]
    exact hne)
  rw [← eL] at m1
  obtain ⟨k1, k2⟩ := planErr_iff cs (sortI l) none 0 (by simp)
  have k1' := k1.2 m1
  have hfull := (Ext.full hc.n6 hc.ok m1).2
  have hle := (Ext.full hc.n6 hc.ok m1).1
  have hany : (plansS n cs).any (fun p => p == sortI l) = true ↔ sortI l ∈ plansS n cs := by
    rw [List.any_eq_true]
    constructor
    · rintro ⟨x, hx, e⟩; rw [beq_iff_eq] at e; rw [← e]; exact hx
    · intro hm; exact ⟨_, hm, by simp⟩
  unfold validOf
  rw [if_neg (fun x => x hE), if_neg (fun x => x k1'), k2 k1']
  by_cases hlen : (sortI l).length < n
  · rw [if_pos hlen, if_pos (fun e => by have := hfull.1 e; omega)]
  · have heq : (sortI l).length = n := by omega
    rw [if_neg hlen, if_neg (fun x => x (hfull.2 heq))]
    by_cases hw : wetS n (chosenS cs (sortI l)) = allS n
    · rw [if_neg (fun x => x hw), if_pos (hany.2 ((mem_plansS hc.n1 hc.ok _).2 ⟨m1, hfull.2 heq, hw⟩))]
    · rw [if_pos hw, if_neg (fun x => hw ((mem_plansS hc.n1 hc.ok _).1 (hany.1 x)).2.2)]
/-- the channels of a gallery -/
def ownS (cs : List Ch) (g : Int) (t : Nat) : List Int := rangeF (fun i => (cs.getD i (0, 0, 0)).1 == g) t
theorem ownS_mem {cs : List Ch} {g : Int} {x : Int} (h : x ∈ ownS cs g cs.length) : (0 ≤ x ∧ x < cs.length) ∧ frm cs x = g := by
  unfold ownS rangeF at h
  obtain ⟨i, hi, rfl⟩ := List.mem_map.1 h
  obtain ⟨h1, h2⟩ := List.mem_filter.1 hi
  rw [List.mem_range] at h1
  exact ⟨⟨by omega, by omega⟩, by unfold frm; rw [Int.toNat_natCast]; simpa using h2⟩
/-! a map of ints to ints -/
theorem lawI : Keyed Tryz.prog 3 := int_keyed Tryz.underlying3
theorem zeroI (w : World) : (zeroValue 3).run Tryz.prog w = .ok (.int .i64 0) w := by kernel_rfl
def MapTo (W : World) (M n : Nat) (ms : List (Int × Int)) : Prop :=
  ∃ D : DataW Unit, W.ownsMap Tryz.prog 3 (plainElem Tryz.prog 3) M n D ∧ ∀ x ∈ ms, D.atKey (.int .i64 x.1) (.lit (.int .i64 0)) = .lit (.int .i64 x.2)
theorem MapTo.below {W W' : World} {M n : Nat} {ms : List (Int × Int)} (h : MapTo W M n ms) (hb : Below W.heap.size W W') : MapTo W' M n ms := by
  obtain ⟨D, ⟨es, clock, h1, h2⟩, h3⟩ := h
  exact ⟨D, ⟨es, clock, (hb.block M (Array.getElem?_eq_some_iff.1 h1).1).trans h1, h2⟩, h3⟩
theorem MapTo.lt {W : World} {M n : Nat} {ms : List (Int × Int)} (h : MapTo W M n ms) : M < W.heap.size := by
  obtain ⟨D, h1, _⟩ := h
  exact h1.lt
theorem MapTo.made (w : World) (M : Nat) (hM : w.heap.size = M) : MapTo (w.alloc (.map #[] 0)) M 0 [] := by
  subst hM
  exact ⟨_, World.ownsMap_made _ _ _ _, by simp⟩
theorem step_mapTo {w : World} {ops : Array Oper} {o : Oper} {a : Act} {K : Act → World → Prop} {Q : Exit → Act → World → Prop} {E : Prop} (hg : o.guard = none) (m x v : Operand) (hop : o.op = Op.mapUpdate 66 m x v)
    (M n : Nat) (ms : List (Int × Int)) (hm : a.eval m = .map (some M)) (hown : MapTo w M n ms) (hn : n ≤ 1000) (i j : Int) (hx : a.eval x = .int .i64 i) (hv : a.eval v = .int .i64 j) (wi : (Lit.int .i64 i).wf = true) (wj : (Lit.int .i64 j).wf = true)
    (hne : ∀ y ∈ ms, y.1 ≠ i) (hK : ∀ w', MapTo w' M (n + 1) (ms ++ [(i, j)]) → w.grownBy w' (some M) → K (a.put o.dst undef) w') :
    if Region.wanted o (yielded ops a.tmps) = true then Oper.wp Tryz.prog o a w K Q else E := by
  rw [if_pos (by simp [Region.wanted, hg])]
  obtain ⟨D, hD, hms⟩ := hown
  obtain ⟨w', hrun, r1, r2⟩ := hD.update lawI Tryz.underlying66 (by unfold maxLen; omega) (keyOf_int_mk Tryz.underlying3 wi) (plainElem_int Tryz.underlying3 wj)
  have hK' := hK w' ⟨_, r1, fun y hy => by
    rcases List.mem_append.1 hy with hy | hy
    · rw [atKey_put_other (by intro e; injection e with _ e; exact hne y hy e)]
      exact hms y hy
    · rw [List.mem_singleton] at hy
      subst hy
      exact atKey_put_same hD.isMap (show WideAt.IsKeyLit (.int .i64 _) from trivial) _ _⟩ r2
  unfold Oper.wp
  simp [execOp, hop, hm, hx, hv, hrun, Result.andThen]
  exact hK'
theorem look_mapTo {w : World} {ops : Array Oper} {rest : List Oper} {o : Oper} {a : Act} {Q : Exit → Act → World → Prop} (hg : o.guard = none) (m x : Operand) (hop : o.op = Op.lookup 66 m x false)
    (M n : Nat) (ms : List (Int × Int)) (hm : a.eval m = .map (some M)) (hown : MapTo w M n ms) (i j : Int) (hx : a.eval x = .int .i64 i) (wi : (Lit.int .i64 i).wf = true) (hij : (i, j) ∈ ms)
    (hK : wpList Tryz.prog ops Q rest (a.put o.dst (.int .i64 j)) w) : wpList Tryz.prog ops Q (o :: rest) a w := by
  obtain ⟨D, hD, hms⟩ := hown
  refine wpList_lookup_own_int w hg m x 66 hop 3 3 .i64 lawI Tryz.underlying66 Tryz.underlying3 (zeroI _) M n D hm hD _ _ hx (keyOf_int_mk Tryz.underlying3 wi) fun c hat hwc => ?_
  have h1 := hms _ hij
  dsimp only at h1
  rw [hat] at h1
  injection h1 with h1
  injection h1 with _ h1
  rw [h1]
  exact hK
/-! slices.ContainsFunc at lists -/
theorem ways1_any (B : Nat) (l p : List Int) (q : Option Addr) (c : Nat) (w : World) (hB : ListIn w B l) (hl : l.length ≤ 1000) (hr : RowV w q (flatI p)) (hp : p.length ≤ 1000) :
    Calls Tryz.prog 40 #[.slice q p.length c, .pointer (some ⟨B, 0, none⟩)] w fun e w' => e = .returned (.bool (p == l)) ∧ Below w.heap.size w w' := by
  obtain ⟨q2, k, h1, h2, h3⟩ := hB
  have hsm := same_any q q2 c k p l w hr h3 (by omega) (by omega)
  have HSM := Lib.hid hsm
  clear hsm h3 hr
  go_enter Tryz.func40, Tryz.ntmps40
  go_wp2_with (go_at_call 17; refine HSM.out.mono ?_; rintro e w1 ⟨rfl, hb1⟩)
  go_ret
  exact ⟨rfl, hb1⟩
theorem indexL_any (B : Nat) (l : List Int) (q : Option Addr) (cap : Nat) (vs : List Value) (ls : List (List Int)) (w : World) (hB : ListIn w B l) (hl : l.length ≤ 1000) (hr : RowV w q vs) (hv : vs.length = ls.length) (hin : InL (fun u l => ∃ q c, u = .slice q l.length c ∧ RowV w q (flatI l)) vs ls)
    (hls : ls.length ≤ 1000000) (hp : ∀ p ∈ ls, p.length ≤ 1000) :
    Calls Tryz.prog 97 #[.slice q ls.length cap, .func (.func 40) #[] #[.pointer (some ⟨B, 0, none⟩)]] w fun e w' => e = .returned (.int .i64 (firstIdx (fun p => p == l) ls)) ∧ Below w.heap.size w w' := by
  have hap := fun W (hb : Below w.heap.size w W) p q c h2 h3 => ways1_any B l p q c W (hB.below (Nat.le_refl _) hb) hl h2 h3
  have HAP := Lib.hid hap
  have HIN := Lib.hid hin
  have HP := Lib.hid hp
  have HV := Lib.hid hv
  have HR := Lib.hid hr
  clear hap hB hin hp hv hr
  go_enter Tryz.func97, Tryz.ntmps97
  go_wp2
  go_loopw [8] (fun i wl => ∃ k : Nat, k ≤ ls.length ∧ i = .int .i64 k ∧ AllNo (fun p => p == l) ls k ∧ Below w.heap.size w wl) (fun i _ => ls.length - (intOf i).toNat)
  case atStart => exact ⟨0, Nat.zero_le _, rfl, AllNo.zero _ _, Below.refl _ _⟩
  case round =>
    obtain ⟨k, hk, rfl, hall, hbl⟩ := hrel
    by_cases hlt : k < ls.length
    · obtain ⟨u, hu, ql, cl, rfl, hrl⟩ := InL.get k HIN.out hlt
      obtain ⟨b5, off5, rfl, hb5, hcell⟩ := HR.out.at (k := k) (by rw [HV.out]; exact hlt) (Nat.le_refl _) hbl
      have hcl := hcell k _ hu
      have hst := hall.step hlt []
      have hlen := HP.out _ (getD_mem ls k [] hlt)
      have hrl2 := hrl.below (Nat.le_refl _) hbl
      have hki : (k : Int) < (ls.length : Int) := by omega
      generalize ls.getD k [] = y at hcl hst hlen hrl2
      obtain ⟨z, hz⟩ : ∃ z, (y == l) = z := ⟨_, rfl⟩
      have hcc := HAP.out wr hbl y ql cl hrl2 hlen
      rw [hz] at hcc
      have HS := Lib.hid hst
      have HCC := Lib.hid hcc
      have HZ := Lib.hid hz
      clear hst hcc hz hrl hrl2 hcell hu
      cases z with
      | true =>
        go_wp2_with (go_at_call 40; refine HCC.out.mono ?_; rintro e w' ⟨rfl, hb⟩)
        go_ret
        exact ⟨ret_int (HS.out.2 HZ.out).symm, hbl.on hb⟩
      | false =>
        go_wp2_with (go_at_call 40; refine HCC.out.mono ?_; rintro e w' ⟨rfl, hb⟩)
        go_roundw
        case rel => exact ⟨k + 1, hlt, by go_num, HS.out.1 HZ.out, hbl.on hb⟩
        case measure => simp [intOf]; omega
    · obtain rfl : k = ls.length := by omega
      go_wp2
      go_ret
      exact ⟨ret_int hall.all.symm, hbl⟩
theorem containsL_any (B : Nat) (l : List Int) (q : Option Addr) (cap : Nat) (vs : List Value) (ls : List (List Int)) (w : World) (hB : ListIn w B l) (hl : l.length ≤ 1000) (hr : RowV w q vs) (hv : vs.length = ls.length) (hin : InL (fun u l => ∃ q c, u = .slice q l.length c ∧ RowV w q (flatI l)) vs ls)
    (hls : ls.length ≤ 1000000) (hp : ∀ p ∈ ls, p.length ≤ 1000) :
    Calls Tryz.prog 39 #[.slice q ls.length cap, .func (.func 40) #[] #[.pointer (some ⟨B, 0, none⟩)]] w fun e w' => e = .returned (.bool (ls.any fun p => p == l)) ∧ Below w.heap.size w w' := by
  have hix := indexL_any B l q cap vs ls w hB hl hr hv hin hls hp
  have HIX := Lib.hid hix
  clear hix hB hr hv hin hp
  go_enter Tryz.func39, Tryz.ntmps39
  go_wp2_with (go_at_call 97; refine HIX.out.mono ?_; rintro e w' ⟨rfl, hb⟩)
  go_ret
  exact ⟨ret_bool (firstIdx_any _ _), hb⟩
end Go.Proofs.YtadamjleglckpaaGreat.drn
