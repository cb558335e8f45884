/- Package drain, the walks: pay. -/
import Derived.Test.YtadamjleglckpaaGreatQa6
import Derived.Test.YtadamjleglckpaaGreatQa2
import Derived.Test.YtadamjleglckpaaGreatQa3
import Derived.Test.YtadamjleglckpaaGreatQa4
import Derived.BigRegion

namespace Go.Proofs.YtadamjleglckpaaGreat.drn
open Go.RowKit
set_option linter.unusedSimpArgs false
set_option linter.unusedVariables false

/-- only one block of those that were there has changed -/
def Far (g : Nat) (w w' : World) : Prop := w.heap.size ≤ w'.heap.size ∧ ∀ k, k < w.heap.size → k ≠ g → w'.heap[k]? = w.heap[k]?
theorem Far.trans {g : Nat} {a b c : World} (h1 : Far g a b) (h2 : Far g b c) : Far g a c :=
  ⟨Nat.le_trans h1.1 h2.1, fun k hk hne => (h2.2 k (Nat.lt_of_lt_of_le hk h1.1) hne).trans (h1.2 k hk hne)⟩
theorem far_below {g : Nat} {a b : World} (h : Below a.heap.size a b) : Far g a b := ⟨h.size, fun k hk _ => h.block k hk⟩
theorem far_grown {g : Nat} {a b : World} (h : a.grownBy b (some g)) : Far g a b := ⟨h.size, fun k hk hne => h.block k hk (by intro e; injection e with e; exact hne e)⟩
theorem RowV.far {w w' : World} {q : Option Addr} {vs : List Value} {g : Nat} (h : RowV w q vs) (hne : ∀ a, q = some a → a.block ≠ g) (hf : Far g w w') : RowV w' q vs := by
  rcases h with h | ⟨b, off, e, hz, hc⟩
  · exact .inl h
  · refine .inr ⟨b, off, e, Nat.lt_of_lt_of_le hz hf.1, fun i v hi => ?_⟩
    rw [World.cell?_of_block (a := ⟨b, off + i, none⟩) (hf.2 b hz (hne ⟨b, off, none⟩ e))]
    exact hc i v hi
theorem owns_far {w w' : World} {base : Nat} {e : TypeId} {size : Nat} {v : Value} {n g : Nat} {xs : List Value} (h : w.ownsRow base e size v n xs) (hne : v.ownBlock ≠ some g) (hf : Far g w w') : w'.ownsRow base e size v n xs := by
  have hlt := h.lt
  obtain ⟨h1, h2 | ⟨k, cap, cur, rfl, hg, hh, r⟩⟩ := h
  · exact ⟨h1, .inl h2⟩
  · have := (hlt k rfl).2
    refine ⟨h1, .inr ⟨k, cap, cur, rfl, hg, (hf.2 k this (by intro e; subst e; exact hne rfl)).trans hh, r⟩⟩

set_option maxRecDepth 100000 in
set_option maxHeartbeats 1000000 in
theorem pay_any (n s g base cap : Nat) (cs : List Ch) (w : World) (hc : Chs n cs) (hs : s < 2 ^ n) (hbase : base ≤ w.heap.size) (hne : leavingS cs s ≠ [])
    (hown : w.ownsRow base 128 3 (.slice (some ⟨g, 0, none⟩) cs.length cap) cs.length (flatC n cs)) :
    Calls Tryz.prog 77 #[.slice (some ⟨g, 0, none⟩) cs.length cap, .int .u64 s] w fun e w' => e = .returned (.int .i64 (leastLeft cs s)) ∧
      w'.ownsRow base 128 3 (.slice (some ⟨g, 0, none⟩) cs.length cap) cs.length (flatC n (takeLeft cs s (leastLeft cs s))) ∧ Below base w w' ∧ Far g w w' := by
  obtain ⟨q0, c0, e0, hrow, _, _⟩ := rowV_of_owns hown (by intro h; rw [List.length_eq_zero_iff] at h; rw [h]; rfl)
  injection e0 with e1 _ e2
  subst e1 e2
  have hlv := leaving_any n s (some ⟨g, 0, none⟩) cap cs w hc hs hrow
  have hLs : (leavingS cs s).Pairwise (· < ·) := by rw [leavingS_eq]; exact rangeF_nodup _ _
  have hLm : ∀ t, t < (leavingS cs s).length → ∃ x : Nat, (leavingS cs s).getD t 0 = x ∧ x < cs.length := by
    intro t ht
    have hm := getD_mem (leavingS cs s) t 0 ht
    rw [leavingS_eq, rangeF_mem] at hm
    obtain ⟨i, hi, _, e⟩ := hm
    exact ⟨i, by rw [leavingS_eq]; exact e, hi⟩
  have hcost : ∀ i ∈ leavingS cs s, 0 ≤ (cs.getD i.toNat (0, 0, 0)).2.2 ∧ (cs.getD i.toNat (0, 0, 0)).2.2 ≤ 20 := by
    intro i hi
    rw [leavingS_eq, rangeF_mem] at hi
    obtain ⟨k, hk, _, rfl⟩ := hi
    have := getD_ok hc.ok hk
    exact ⟨this.2.2.2.1, this.2.2.2.2⟩
  have hfull := fun cur h => PartC.full (cs := cs) (s := s) (cur := cur) (k := leastLeft cs s) h
  have hlm := least_minL cs s
  have hbdm := minL_bd cs (leavingS cs s) 9223372036854775807 hcost (by omega)
  rw [← hlm] at hbdm
  have hLl : (leavingS cs s).length ≤ 14 := by rw [leavingS_eq]; exact Nat.le_trans (rangeF_len _ _) hc.many
  obtain ⟨lst, hlst⟩ : ∃ lst, leastLeft cs s = lst := ⟨_, rfl⟩
  rw [hlst] at hfull hlm hbdm ⊢
  obtain ⟨i1, hi1⟩ : ∃ i, i ∈ leavingS cs s := List.exists_mem_of_ne_nil _ hne
  have hle20 : lst ≤ 20 := by have h1 := hbdm.2.2 i1 hi1; have h2 := hcost i1 hi1; omega
  have hge0 := hbdm.1
  obtain ⟨L, hL⟩ : ∃ L, leavingS cs s = L := ⟨_, rfl⟩
  rw [hL] at hlv hLs hLm hcost hfull hlm hbdm hLl
  have HOW := Lib.hid hown
  have HLV := Lib.hid hlv
  have HLS := Lib.hid hLs
  have HLM := Lib.hid hLm
  have HFU := Lib.hid hfull
  have HMIN := Lib.hid hlm
  have HCO := Lib.hid hcost
  have HC := Lib.hid hc
  have hcm := hc.many
  clear hlv hLs hLm hcost hfull hlm hbdm hlst hi1 hL hne hown hs hc
  go_enter Tryz.func77, Tryz.ntmps77
  go_wp2_with (go_at_call 59; refine HLV.out.mono ?_; rintro e w1 ⟨v1, rfl, hown1, hb1⟩; obtain ⟨q1, c1, rfl, hr1, _, hq1⟩ := rowV_of_owns hown1 (by intro h; rw [List.length_eq_zero_iff] at h; rw [h]; rfl))
  have hrow1 := hrow.below (Nat.le_refl _) hb1
  have hownC := owns_below HOW.out (Nat.le_refl _) hb1
  have hbw1 : Below base w w1 := hb1.mono hbase
  have hb1z : base ≤ w1.heap.size := Nat.le_trans hbase hb1.size
  have hgw : g < w.heap.size := (HOW.out.lt g rfl).2
  clear hown1 hrow
  go_loop [6, 16] (fun m i => ∃ t : Nat, t ≤ L.length ∧ i = .int .i64 t ∧ m = .int .i64 (minL cs (L.take t) 9223372036854775807)) (fun _ i => L.length - (intOf i).toNat)
  case atStart => exact ⟨0, Nat.zero_le _, rfl, rfl⟩
  case round =>
    obtain ⟨t, ht, rfl, rfl⟩ := hrel
    by_cases htl : t < L.length
    · obtain ⟨x, hx, hxl⟩ := HLM.out t htl
      obtain ⟨b9, off9, rfl, hb9, h9⟩ := rowI_at hr1 htl (Nat.le_refl _) (Below.refl _ _)
      have hst := minL_take cs L t htl 9223372036854775807
      rw [hx] at h9 hst
      rw [Int.toNat_natCast] at hst
      obtain ⟨b3, off3, e3, hb3, g1, g2, g3⟩ := rowC_at hrow1 hxl (Nat.le_refl _) (Below.refl _ _)
      injection e3 with e3
      injection e3 with e4 e5
      subst e4 e5
      generalize cs.getD x (0, 0, 0) = c at g1 g2 g3 hst
      generalize minL cs (L.take t) 9223372036854775807 = mm at hst ⊢
      have hxi : (x : Int) < (cs.length : Int) := by omega
      have HST := Lib.hid hst
      have g3' : w1.cell? ⟨g, x * 3 + 2, none⟩ = some (.int .i64 c.2.2) := by simpa using g3
      clear hst g1 g2 g3 hx
      go_wp2
      refine ⟨⟨t + 1, htl, by go_num, ?_⟩, by simp [intOf]; omega⟩
      rw [HST.out]
      all_goals first | rfl | (congr 1; split <;> omega)
    · obtain rfl : t = L.length := by omega
      rw [List.take_length, ← HMIN.out]
      have hq1n : ∀ a, q1 = some a → a.block ≠ g := fun a ha => by have := (hq1 a ha).1; omega
      have hcp0 : PartC cs L cs 0 lst := ⟨rfl, fun i hi => by simp⟩
      have HCP0 := Lib.hid hcp0
      clear hcp0
      go_wp2
      go_loopw [30] (fun i wl => ∃ (t : Nat) (cur : List Ch), t ≤ L.length ∧ i = .int .i64 t ∧ wl.ownsRow base 128 3 (.slice (some ⟨g, 0, none⟩) cs.length cap) cs.length (flatC n cur) ∧ PartC cs L cur t lst ∧ RowV wl q1 (flatI L) ∧ Below base w wl ∧ base ≤ wl.heap.size ∧ Far g w wl) (fun i _ => L.length - (intOf i).toNat)
      case atStart => exact ⟨0, cs, Nat.zero_le _, rfl, hownC, HCP0.out, hr1, hbw1, hb1z, far_below hb1⟩
      case round =>
        obtain ⟨t, cur, ht, rfl, ho, hpart, hrl, hbl, hbz, hfar⟩ := hrel
        by_cases htl : t < L.length
        · obtain ⟨x, hx, hxl⟩ := HLM.out t htl
          obtain ⟨b9, off9, rfl, hb9, h9⟩ := rowI_at hrl htl (Nat.le_refl _) (Below.refl _ _)
          have hcx := HCO.out _ (getD_mem L t 0 htl)
          rw [hx] at h9 hcx
          rw [Int.toNat_natCast] at hcx
          have hnow := hpart.now HLS.out htl hx hxl
          have hstep := hpart.step HLS.out htl hx hxl
          have hcl : cur.length = cs.length := hpart.1
          obtain ⟨f0, f1, f2⟩ := flatC_get n cur x (by omega)
          have hce := ho.cellAt (x * 3 + 2) (by omega)
          rw [f2, hnow] at hce
          have hfz := ho.frozenAt (x * 3 + 2)
          have hst := ho.stored (x * 3 + 2) (.int .i64 ((cs.getD x (0, 0, 0)).2.2 - lst))
          rw [flatC_set n cur x _ (by omega), hnow] at hst
          generalize cs.getD x (0, 0, 0) = c at hce hst hstep hcx
          have hw : IntKind.i64.wrap (c.2.2 - lst) = c.2.2 - lst := IntWalk.i64_in _ ⟨by omega, by omega⟩
          have hxi : (x : Int) < (cs.length : Int) := by omega
          have hn9 := hq1n ⟨b9, off9, none⟩ rfl
          have hrl2 := hrl.grown (fun a ha => by injection ha with ha; subst ha; intro e; injection e with e; exact hn9 e) hst.2
          have hbl2 := hbl.grown hst.2 hbz (fun k hk => by injection hk with hk; have := (ho.lt g rfl).1; omega)
          have hbz2 : base ≤ (wr.setCell ⟨g, x * 3 + 2, none⟩ (.int .i64 (c.2.2 - lst))).heap.size := by simpa using hbz
          have HFAR := Lib.hid (hfar.trans (far_grown hst.2))
          have HST := Lib.hid hst.1
          have HSTEP := Lib.hid hstep
          have HRL2 := Lib.hid hrl2
          have HBL2 := Lib.hid hbl2
          have hgz := (ho.lt g rfl).2
          clear hst hstep hrl2 hbl2 ho hpart hrl hx hcl hnow f0 f1 f2 hcx
          go_wp2
          go_roundw
          case rel => exact ⟨t + 1, _, htl, by go_num, HST.out, HSTEP.out, HRL2.out, HBL2.out, hbz2, HFAR.out⟩
          case measure => simp [intOf]; omega
        · obtain rfl : t = L.length := by omega
          have hcur := HFU.out cur hpart
          rw [hcur] at ho
          have HO9 := Lib.hid ho
          clear ho hpart hrl hcur
          go_wp2
          go_ret
          exact ⟨rfl, HO9.out, hbl, hfar⟩
end Go.Proofs.YtadamjleglckpaaGreat.drn

/- Package drain: the dues' steps come to an end. -/
namespace Go.Proofs.YtadamjleglckpaaGreat.drn
set_option linter.unusedSimpArgs false
set_option linter.unusedVariables false
/-- how many channels have nothing left -/
def zeros (cs : List Ch) : Nat := cs.countP fun c => c.2.2 == 0
theorem zeros_le (cs : List Ch) : zeros cs ≤ cs.length := List.countP_le_length
theorem takeLeft_ends (cs : List Ch) (s : Nat) (k : Int) : (takeLeft cs s k).map ends = cs.map ends := by
  unfold takeLeft
  rw [List.map_map]
  apply List.map_congr_left
  intro c _
  show ends (if leavesS s c then (c.1, c.2.1, c.2.2 - k) else c) = ends c
  by_cases h : leavesS s c = true
  · rw [if_pos h]; rfl
  · rw [if_neg h]
theorem least_pays {cs : List Ch} {s : Nat} {k : Int} (hk : 0 < k) (hsp : cs.any (spentC s) = false) (hex : ∃ c ∈ cs, leavesS s c = true ∧ c.2.2 = k) : zeros cs + 1 ≤ zeros (takeLeft cs s k) := by
  unfold zeros takeLeft
  rw [List.countP_map]
  have key : ∀ (l : List Ch), l.any (spentC s) = false → l.countP (fun c => c.2.2 == 0) ≤ l.countP ((fun c : Ch => c.2.2 == 0) ∘ fun c => if leavesS s c then (c.1, c.2.1, c.2.2 - k) else c) ∧
      ((∃ c ∈ l, leavesS s c = true ∧ c.2.2 = k) → l.countP (fun c => c.2.2 == 0) + 1 ≤ l.countP ((fun c : Ch => c.2.2 == 0) ∘ fun c => if leavesS s c then (c.1, c.2.1, c.2.2 - k) else c)) := by
    intro l
    induction l with
    | nil => intro _; exact ⟨Nat.le_refl _, by rintro ⟨c, hc, _⟩; cases hc⟩
    | cons c r ih =>
      intro h
      rw [List.any_cons, Bool.or_eq_false_iff] at h
      obtain ⟨i1, i2⟩ := ih h.2
      rw [List.countP_cons, List.countP_cons]
      by_cases hl : leavesS s c = true
      · have hc0 : (c.2.2 == 0) = false := by
          have h1 := h.1
          unfold spentC at h1
          rw [hl, Bool.and_true] at h1
          exact h1
        have e : ((fun c : Ch => c.2.2 == 0) ∘ fun c => if leavesS s c then (c.1, c.2.1, c.2.2 - k) else c) c = (c.2.2 - k == 0) := by
          show ((if leavesS s c then (c.1, c.2.1, c.2.2 - k) else c).2.2 == 0) = _
          rw [if_pos hl]
        rw [hc0, e]
        refine ⟨by cases (c.2.2 - k == 0) <;> simp <;> omega, fun hx => ?_⟩
        by_cases hck : c.2.2 = k
        · have : (c.2.2 - k == 0) = true := by rw [hck]; simp
          rw [this]; simp; omega
        · obtain ⟨d, hd, hd2, hd3⟩ := hx
          rcases List.mem_cons.1 hd with rfl | hd
          · exact absurd hd3 hck
          · have := i2 ⟨d, hd, hd2, hd3⟩
            cases (c.2.2 - k == 0) <;> simp <;> omega
      · have e : ((fun c : Ch => c.2.2 == 0) ∘ fun c => if leavesS s c then (c.1, c.2.1, c.2.2 - k) else c) c = (c.2.2 == 0) := by
          show ((if leavesS s c then (c.1, c.2.1, c.2.2 - k) else c).2.2 == 0) = _
          rw [if_neg hl]
        rw [e]
        refine ⟨by omega, fun hx => ?_⟩
        obtain ⟨d, hd, hd2, hd3⟩ := hx
        rcases List.mem_cons.1 hd with rfl | hd
        · exact absurd hd2 hl
        · have := i2 ⟨d, hd, hd2, hd3⟩
          omega
  exact (key cs hsp).2 hex
/-- the least that is left is what some channel has left -/
theorem least_of {cs : List Ch} {s : Nat} (hb : ∀ c ∈ cs, 0 ≤ c.2.2 ∧ c.2.2 ≤ 20) (hex : ∃ c ∈ cs, leavesS s c = true) : (∃ c ∈ cs, leavesS s c = true ∧ c.2.2 = leastLeft cs s) ∧ ∀ c ∈ cs, leavesS s c = true → leastLeft cs s ≤ c.2.2 := by
  have key : ∀ (l : List Ch) (m : Int), (l.foldl (fun m c => min m c.2.2) m = m ∨ ∃ c ∈ l, c.2.2 = l.foldl (fun m c => min m c.2.2) m) ∧ (l.foldl (fun m c => min m c.2.2) m ≤ m) ∧ ∀ c ∈ l, l.foldl (fun m c => min m c.2.2) m ≤ c.2.2 := by
    intro l
    induction l with
    | nil => intro m; exact ⟨.inl rfl, Int.le_refl _, by simp⟩
    | cons c r ih =>
      intro m
      rw [List.foldl_cons]
      obtain ⟨a, b, d⟩ := ih (min m c.2.2)
      refine ⟨?_, by omega, fun e he => ?_⟩
      · rcases a with a | ⟨e, he, h⟩
        · rcases Int.le_total m c.2.2 with h | h
          · left; rw [a]; omega
          · right; exact ⟨c, by simp, by rw [a]; omega⟩
        · right; exact ⟨e, by simp [he], h⟩
      · rcases List.mem_cons.1 he with rfl | he
        · omega
        · exact d e he
  obtain ⟨a, b, d⟩ := key (cs.filter (leavesS s)) 9223372036854775807
  have hd : ∀ c ∈ cs, leavesS s c = true → leastLeft cs s ≤ c.2.2 := fun c hc hl => d c (List.mem_filter.2 ⟨hc, hl⟩)
  refine ⟨?_, hd⟩
  rcases a with a | ⟨c, hc, h⟩
  · obtain ⟨c, hc, hl⟩ := hex
    have h1 := hd c hc hl
    have h2 := hb c hc
    have h3 : leastLeft cs s = 9223372036854775807 := a
    omega
  · obtain ⟨h1, h2⟩ := List.mem_filter.1 hc
    exact ⟨c, h1, h2, h⟩
theorem take_ok {n : Nat} {cs : List Ch} {s : Nat} (hc : Chs n cs) (hex : ∃ c ∈ cs, leavesS s c = true) : Chs n (takeLeft cs s (leastLeft cs s)) := by
  have hb : ∀ c ∈ cs, 0 ≤ c.2.2 ∧ c.2.2 ≤ 20 := fun c hm => ⟨(hc.ok c hm).2.2.2.1, (hc.ok c hm).2.2.2.2⟩
  obtain ⟨⟨c0, hm0, _, e0⟩, hle⟩ := least_of hb hex
  have h0 := hb c0 hm0
  refine ⟨hc.n1, hc.n6, by simpa [takeLeft] using hc.many, fun c hm => ?_⟩
  unfold takeLeft at hm
  obtain ⟨d, hd, rfl⟩ := List.mem_map.1 hm
  obtain ⟨a1, a2, a3, a4, a5⟩ := hc.ok d hd
  show ChOk n (if leavesS s d then (d.1, d.2.1, d.2.2 - leastLeft cs s) else d)
  by_cases hl : leavesS s d = true
  · rw [if_pos hl]
    have := hle d hd hl
    exact ⟨a1, a2, a3, by show 0 ≤ d.2.2 - _; omega, by show d.2.2 - _ ≤ 20; omega⟩
  · rw [if_neg hl]
    exact ⟨a1, a2, a3, a4, a5⟩
/-- a hill without a trap: some channel leaves each group, whatever is left -/
theorem leaves_some {n : Nat} {cs : List Ch} (hc : Chs n cs) (hw : wetS n cs = allS n) {s : Nat} (hs : s ∈ groupsS n 0) : ∃ c ∈ cs, leavesS s c = true := by
  apply Classical.byContradiction
  intro hno
  have h := (trap_iff hc.n6 hc.ok).1 ⟨s, hs, fun c hm => by
    apply Classical.byContradiction
    intro h
    exact hno ⟨c, hm, by simpa using h⟩⟩
  exact h hw
theorem wet_take (n : Nat) (cs : List Ch) (s : Nat) (k : Int) : wetS n (takeLeft cs s k) = wetS n cs := wetTo_alike n (takeLeft_ends cs s k) 7 0
end Go.Proofs.YtadamjleglckpaaGreat.drn

/- Package drain, the walks: Dues. -/
namespace Go.Proofs.YtadamjleglckpaaGreat.drn
open Go.RowKit
set_option linter.unusedSimpArgs false
set_option linter.unusedVariables false

theorem ListB_below {w w' : World} {g : Nat} {ob : Option Nat} {v : Value} {l : List Int} (h : ∃ q c, v = .slice q l.length c ∧ RowV w q (flatI l) ∧ ∀ a, q = some a → a.block ≠ g ∧ some a.block ≠ ob ∧ a.block < w.heap.size) (hb : Below w.heap.size w w') :
    ∃ q c, v = .slice q l.length c ∧ RowV w' q (flatI l) ∧ ∀ a, q = some a → a.block ≠ g ∧ some a.block ≠ ob ∧ a.block < w'.heap.size := by
  obtain ⟨q, c, e, h1, h2⟩ := h
  exact ⟨q, c, e, h1.below (Nat.le_refl _) hb, fun a ha => ⟨(h2 a ha).1, (h2 a ha).2.1, Nat.lt_of_lt_of_le (h2 a ha).2.2 hb.size⟩⟩
theorem ListB_far {w w' : World} {g : Nat} {ob : Option Nat} {v : Value} {l : List Int} (h : ∃ q c, v = .slice q l.length c ∧ RowV w q (flatI l) ∧ ∀ a, q = some a → a.block ≠ g ∧ some a.block ≠ ob ∧ a.block < w.heap.size) (hb : Far g w w') :
    ∃ q c, v = .slice q l.length c ∧ RowV w' q (flatI l) ∧ ∀ a, q = some a → a.block ≠ g ∧ some a.block ≠ ob ∧ a.block < w'.heap.size := by
  obtain ⟨q, c, e, h1, h2⟩ := h
  exact ⟨q, c, e, h1.far (fun a ha => (h2 a ha).1) hb, fun a ha => ⟨(h2 a ha).1, (h2 a ha).2.1, Nat.lt_of_lt_of_le (h2 a ha).2.2 hb.1⟩⟩
theorem ListB_grown {w w' : World} {g : Nat} {ob ob' : Option Nat} {v : Value} {l : List Int} (h : ∃ q c, v = .slice q l.length c ∧ RowV w q (flatI l) ∧ ∀ a, q = some a → a.block ≠ g ∧ some a.block ≠ ob ∧ a.block < w.heap.size) (hb : w.grownBy w' ob) (ho : ob' = ob ∨ ob' = some w.heap.size) :
    ∃ q c, v = .slice q l.length c ∧ RowV w' q (flatI l) ∧ ∀ a, q = some a → a.block ≠ g ∧ some a.block ≠ ob' ∧ a.block < w'.heap.size := by
  obtain ⟨q, c, e, h1, h2⟩ := h
  refine ⟨q, c, e, h1.grown (fun a ha => (h2 a ha).2.1) hb, fun a ha => ⟨(h2 a ha).1, ?_, Nat.lt_of_lt_of_le (h2 a ha).2.2 hb.size⟩⟩
  rcases ho with rfl | rfl
  · exact (h2 a ha).2.1
  · intro e
    injection e with e
    have := (h2 a ha).2.2
    omega
theorem infoD : (Tryz.prog.info? 56).map (fun i => (i.zero, i.size, i.bytes)) = some (some (.agg #[.slice none 0 0, .int .i64 0]), 2, 32) := by kernel_rfl
theorem flatD_snoc : ∀ (vs : List Value) (ds : List Du) (v : Value) (d : Du), vs.length = ds.length → flatD (vs ++ [v]) (ds ++ [d]) = flatD vs ds ++ [v, .int .i64 d.2]
  | [], [], v, d, _ => rfl
  | u :: vs, e :: ds, v, d, h => by
    have ih := flatD_snoc vs ds v d (by simpa using h)
    show u :: .int .i64 e.2 :: flatD (vs ++ [v]) (ds ++ [d]) = u :: .int .i64 e.2 :: (flatD vs ds ++ [v, .int .i64 d.2])
    rw [ih]
  | [], _ :: _, _, _, h => by simp at h
  | _ :: _, [], _, _, h => by simp at h
/-- a list in memory beside two blocks -/
def ListB (w : World) (g : Nat) (ob : Option Nat) (v : Value) (l : List Int) : Prop := ∃ q c, v = .slice q l.length c ∧ RowV w q (flatI l) ∧ ∀ a, q = some a → a.block ≠ g ∧ some a.block ≠ ob ∧ a.block < w.heap.size
/-- dues, and an error -/
def RetD (w : World) (ds : List Du) (err : Int) (e : Ending) (w' : World) : Prop :=
  ∃ q c vs, e = .returned (.tuple #[.slice q ds.length c, .int .i64 err]) ∧ DuesAt w' q vs ds ∧ Below w.heap.size w w'
theorem duesAt_nil (w : World) : DuesAt w none [] [] := ⟨.inl rfl, trivial⟩
theorem duesF_step {n f : Nat} {cs : List Ch} {s : Nat} (h : payerS n cs = some s) : duesF n (f + 1) cs = (listS s, leastLeft cs s) :: duesF n f (takeLeft cs s (leastLeft cs s)) := by
  rw [duesF, h]
theorem duesF_done {n f : Nat} {cs : List Ch} (h : payerS n cs = none) : duesF n (f + 1) cs = [] := by rw [duesF, h]
theorem payer_in {n : Nat} {cs : List Ch} {s : Nat} (h : payerS n cs = some s) : s ∈ groupsS n 0 ∧ cs.any (spentC s) = false := by
  rw [payerS_eq] at h
  have hm := List.mem_of_find?_eq_some h
  rw [payersS_eq] at hm
  obtain ⟨h1, h2⟩ := List.mem_filter.1 hm
  exact ⟨h1, by simpa using h2⟩
theorem leaving_ne {cs : List Ch} {s : Nat} (h : ∃ c ∈ cs, leavesS s c = true) : leavingS cs s ≠ [] := by
  obtain ⟨c, hc, hl⟩ := h
  intro e
  have hm := leaving_map cs s
  rw [e] at hm
  have : c ∈ cs.filter (leavesS s) := List.mem_filter.2 ⟨hc, hl⟩
  rw [← hm] at this
  simp at this

set_option maxRecDepth 100000 in
set_option maxHeartbeats 2000000 in
theorem Dues_any (n : Int) (q : Option Addr) (cap : Nat) (cs : List Ch) (w : World) (hr : RowV w q (flatT cs)) (hcap : cs.length ≤ cap) :
    Calls Tryz.prog 21 #[hillV n q cs.length cap] w (RetD w (duesOf n.toNat cs).1 (duesOf n.toNat cs).2) := by
  have hb0 : Below w.heap.size w (w.alloc (.cells #[.int .i64 n, .slice q cs.length cap] 24)) := (Below.refl _ _).alloc (Nat.le_refl _) _
  have c1 := Check_any n q cap cs _ (hr.below (Nat.le_refl _) hb0) hcap
  have HB := Lib.hid hb0
  by_cases h0 : errD n cs = 0
  · obtain ⟨m, rfl, hchs⟩ := chs_of h0
    have hn6 := hchs.n6
    have hch := fun W hb => channelsOf_any m q cap cs W hchs (hr.below (Nat.le_refl _) hb)
    have hdr := fun W q3 c3 h3 => drained_any m q3 c3 cs W hchs h3
    have hal := fun W => allOf_any m q cs.length cap W hn6
    have hwb := wetS_bd hchs.ok
    unfold hillV at *
    rw [h0] at c1
    have C1 := Lib.hid c1
    have HCH := Lib.hid hch
    have HDR := Lib.hid hdr
    have HAL := Lib.hid hal
    by_cases hwet : wetS m cs = allS m
    · have hans : duesOf ((m : Int).toNat) cs = (duesF m (cs.length + 1) cs, 0) := by
        unfold duesOf
        rw [Int.toNat_natCast, if_neg (fun h => h h0), if_neg (fun h => h hwet)]
      rw [hans]
      have hwb2 : (((wetS m cs : Nat) : Int) != ((allS m : Nat) : Int)) = false := by rw [hwet]; simp
      have HWET := Lib.hid hwet
      have HC := Lib.hid hchs
      have hcm := hchs.many
      clear hans h0 hr hb0 hchs c1 hch hdr hal hwet hwb
      go_enter Tryz.func21, Tryz.ntmps21
      go_upto_region 5 with (first
        | (go_at_call 18; refine C1.out.mono ?_; rintro e w1 ⟨rfl, hb1⟩; obtain ⟨hc1, hf1⟩ := bcell hb1; have hac1 : Below w.heap.size w w1 := HB.out.on hb1; have hz0 : w.heap.size < w1.heap.size := (by have := hb1.size; simp at this; omega))
        | (go_at_call 53; refine (HCH.out w1 hac1).mono ?_; rintro e w2 ⟨v2, rfl, hown2, hb2⟩))
      obtain ⟨d0, d1⟩ : w1.cell? ⟨w.heap.size, 0, none⟩ = some (.int .i64 m) ∧ w1.cell? ⟨w.heap.size, 1, none⟩ = some (.slice q cs.length cap) := ⟨by rw [hc1 _ _ (by simp)]; simp, by rw [hc1 _ _ (by simp)]; simp⟩
      have e0 := (hb2.cell (p := ⟨w.heap.size, 0, none⟩) hz0).trans d0
      have e1 := (hb2.cell (p := ⟨w.heap.size, 1, none⟩) hz0).trans d1
      have hz2 : w.heap.size < w2.heap.size := Nat.lt_of_lt_of_le hz0 hb2.size
      have hac2 := hac1.on hb2
      obtain ⟨q2, c2, rfl, hrow2, _, hqb2⟩ := rowV_of_owns hown2 (by intro h; rw [List.length_eq_zero_iff] at h; rw [h]; rfl)
      clear hc1 hf1 d0 d1
      go_region_held3 (fun W => W.cell? ⟨w.heap.size, 0, none⟩ = some (.int .i64 m) ∧ W.cell? ⟨w.heap.size, 1, none⟩ = some (.slice q cs.length cap)) (first | exact ⟨e0, e1⟩ | exact ⟨f0, f1⟩ | exact ⟨g0, g1⟩ | go_keep)
        (first
        | (go_at_call 52; refine (HDR.out _ q2 c2 (hrow2.below (Nat.le_refl _) (Below.refl _ _).drew)).mono ?_; rintro e w3 ⟨rfl, hb3'⟩; have hb3 : Below w2.heap.size w2 w3 := (((Below.refl _ _).drew).on hb3'); have f0 := (hb3.cell (p := ⟨w.heap.size, 0, none⟩) hz2).trans e0; have f1 := (hb3.cell (p := ⟨w.heap.size, 1, none⟩) hz2).trans e1; have hz3 : w.heap.size < w3.heap.size := Nat.lt_of_lt_of_le hz2 hb3.size)
        | (go_at_call 51; refine (HAL.out _).mono ?_; rintro e w4 ⟨rfl, hb4⟩; have g0 := (hb4.cell (p := ⟨w.heap.size, 0, none⟩) hz3).trans f0; have g1 := (hb4.cell (p := ⟨w.heap.size, 1, none⟩) hz3).trans f1)
        | fail)
      have hb24 := hb3.on hb4
      have hown4 := owns_below hown2 (Nat.le_refl _) hb24
      have hac4 := hac2.on hb24
      have hcne : cs ≠ [] := by
        obtain ⟨k, rfl⟩ : ∃ k, m = k + 1 := ⟨m - 1, by have := HC.out.n1; omega⟩
        obtain ⟨c, hc, _⟩ := leaves_some HC.out HWET.out (s := 1 <<< 0) (by simp [groupsS])
        intro e
        rw [e] at hc
        cases hc
      have hlen0 : 0 < cs.length := List.length_pos_iff.2 hcne
      obtain ⟨g, rfl, hgb⟩ : ∃ g, q2 = some ⟨g, 0, none⟩ ∧ w1.heap.size ≤ g := by
        obtain ⟨_, h2 | ⟨g, cap', cur, hv, hb, _⟩⟩ := hown2
        · omega
        · cases hv; exact ⟨g, rfl, hb⟩
      have hg4 : g < w4.heap.size := (hown4.lt g rfl).2
      have HLEN0 := Lib.hid hlen0
      have hnp := fun W cur (hcu : Chs m cur) h => nextPayer_any m q cs.length cap (some ⟨g, 0, none⟩) c2 cur W hcu h
      unfold hillV at hnp
      have HNP := Lib.hid hnp
      clear e0 e1 f0 f1 hrow2 hcne hlen0 hb1 hqb2 hnp hb3 hb4
      go_wp2
      clear hwb2
      go_loopg [6] (cs.length + 1) (fun f v wl => ∃ (cur : List Ch) (done : List Du) (gv : List Value), cur.length = cs.length ∧ Chs m cur ∧ wetS m cur = allS m ∧ cs.length + 1 ≤ f + zeros cur ∧ done ++ duesF m f cur = duesF m (cs.length + 1) cs ∧ done.length + f ≤ cs.length + 1 ∧
        wl.ownsRow w1.heap.size 128 3 (.slice (some ⟨g, 0, none⟩) cs.length c2) cs.length (flatC m cur) ∧ wl.ownsRow w4.heap.size 56 2 v done.length (flatD gv done) ∧ gv.length = done.length ∧ InL (ListB wl g v.ownBlock) gv (done.map (·.1)) ∧
        wl.cell? ⟨w.heap.size, 0, none⟩ = some (.int .i64 m) ∧ wl.cell? ⟨w.heap.size, 1, none⟩ = some (.slice q cs.length cap) ∧ Below w.heap.size w wl ∧ w4.heap.size ≤ wl.heap.size)
      case atStart => exact ⟨cs, [], [], rfl, HC.out, HWET.out, by omega, rfl, by simp, hown4, World.ownsRow_nil _ _ _ _, rfl, trivial, g0, g1, hac4, Nat.le_refl _⟩
      case round =>
        obtain ⟨cur, done, gv, hcl, hcc, hcw, hz, hdone, hdl, hoC, hoD, hgl, hin, k0, k1, hbw, hsz⟩ := hrel
        have hzl := zeros_le cur
        obtain ⟨f, hf⟩ : ∃ f, gk = f + 1 := ⟨gk - 1, by omega⟩
        subst hf
        obtain ⟨qC, cC, eC, hrowC, _, _⟩ := rowV_of_owns hoC (by intro h; have := HLEN0.out; omega)
        injection eC with eC1 _ eC2
        subst eC1 eC2
        have hnp := HNP.out wr cur hcc hrowC
        rw [hcl] at hnp
        have hzw : w.heap.size < wr.heap.size := by omega
        have hvg : u6.ownBlock ≠ some g := fun e => by have := (hoD.lt g e).1; omega
        have hdl20 : done.length ≤ 20 := by omega
        cases hp : payerS m cur with
        | none =>
          rw [hp] at hnp
          rw [duesF_done hp, List.append_nil] at hdone
          obtain ⟨qD, cD, rfl, hrD, _, _⟩ := rowV_of_owns hoD (by intro h; have h1 := List.length_eq_zero_iff.1 h; have h2 : gv = [] := List.length_eq_zero_iff.1 (by omega); rw [h1, h2]; rfl)
          have HNP2 := Lib.hid hnp
          have HDONE := Lib.hid hdone
          have HRD := Lib.hid hrD
          have HIN := Lib.hid hin
          clear hnp hdone hrD hin hoC hoD hrowC hp hz hcw hcc hdl
          go_wp2_with (go_at_call 76; refine HNP2.out.mono ?_; rintro e w5 ⟨rfl, hb5⟩)
          go_ret2
          refine ⟨qD, cD, gv, by rw [← HDONE.out]; rfl, ?_, hbw.on hb5⟩
          rw [← HDONE.out]
          exact ⟨HRD.out.below (Nat.le_refl _) hb5, InL.mono (fun v l ⟨q, c, e, h1, _⟩ => ⟨q, c, e, h1.below (Nat.le_refl _) hb5⟩) HIN.out⟩
        | some s =>
          rw [hp] at hnp
          obtain ⟨hsg, hsp⟩ := payer_in hp
          have hs2 := (mem_groups.1 hsg).2
          have hs64 := pow_64 hn6 hs2
          have hex := leaves_some hcc hcw hsg
          have hcb : ∀ c ∈ cur, 0 ≤ c.2.2 ∧ c.2.2 ≤ 20 := fun c hm => ⟨(hcc.ok c hm).2.2.2.1, (hcc.ok c hm).2.2.2.2⟩
          obtain ⟨hatt, hlew⟩ := least_of hcb hex
          have hpos : 0 < leastLeft cur s := by
            obtain ⟨c, hc, hl, e⟩ := hatt
            have h1 := (hcb c hc).1
            have h2 : c.2.2 ≠ 0 := by
              intro h0
              have : cur.any (spentC s) = true := List.any_eq_true.2 ⟨c, hc, by simp [spentC, h0, hl]⟩
              rw [hsp] at this
              cases this
            omega
          have hz2' := least_pays hpos hsp hatt
          have hcc2 := take_ok hcc hex
          have hcw2 : wetS m (takeLeft cur s (leastLeft cur s)) = allS m := by rw [wet_take]; exact hcw
          have hcl2 : (takeLeft cur s (leastLeft cur s)).length = cs.length := by rw [← hcl]; simp [takeLeft]
          rw [duesF_step hp] at hdone
          have hpay := fun W (hbz : w1.heap.size ≤ W.heap.size) h => pay_any m s g w1.heap.size c2 cur W hcc hs2 hbz (leaving_ne hex) h
          rw [hcl] at hpay
          generalize takeLeft cur s (leastLeft cur s) = cur2 at *
          generalize leastLeft cur s = lst at *
          have HNP2 := Lib.hid hnp
          have HPAY := Lib.hid hpay
          have HDONE := Lib.hid hdone
          have HIN := Lib.hid hin
          have HOC := Lib.hid hoC
          have HOD := Lib.hid hoD
          have HZ := Lib.hid (show cs.length + 1 ≤ f + zeros cur2 by omega)
          have HC2 := Lib.hid hcc2
          have HW2 := Lib.hid hcw2
          have HL2 := Lib.hid hcl2
          have HGL := Lib.hid hgl
          have hz1b : w1.heap.size ≤ wr.heap.size := by omega
          clear hnp hpay hdone hin hoC hoD hrowC hp hz hcw hcc hz2' hcc2 hcw2 hcl2 hatt hlew hcb hex hsg hsp hgl hs2 hzl
          go_wp2_with (first
            | (go_at_call 76; refine HNP2.out.mono ?_; rintro e w5 ⟨rfl, hb5⟩; have hoC5 := Lib.hid (owns_below HOC.out (Nat.le_refl _) hb5); have hz5 : w1.heap.size ≤ w5.heap.size := Nat.le_trans hz1b hb5.size)
            | (go_at_call 77; refine (HPAY.out w5 hz5 hoC5.out).mono ?_; rintro e w6 ⟨rfl, hoC6, hb6, hfar6⟩; have HOC6 := Lib.hid hoC6; clear hoC6)
            | (go_at_call 54; refine (list_any s _ hs64).mono ?_; rintro e w7 ⟨v7, rfl, hown7, hb7⟩; obtain ⟨q7, c7, rfl, hrow7, _, hq7⟩ := rowV_of_owns hown7 (by intro h; rw [List.length_eq_zero_iff] at h; rw [h]; rfl); have hoD7 := Lib.hid (owns_below (owns_far (owns_below HOD.out (Nat.le_refl _) hb5) hvg hfar6) (Nat.le_refl _) hb7); have hz7 : w4.heap.size ≤ w7.heap.size := Nat.le_trans hsz (Nat.le_trans hb5.size (Nat.le_trans hfar6.1 hb7.size)))
            | (at_builtin; refine app_one _ rfl (.tmp 34) (.tmp 39) 46 rfl w4.heap.size 56 _ 2 32 Tryz.underlying46 infoD rfl (by decide) (by decide) u6 done.length (flatD gv done) rfl (hoD7.out.alloc _) w7.heap.size 1 rfl [.slice q7 (listS s).length c7, .int .i64 lst] rfl ?_ ?_ (by omega) (by simp; omega) ?_; (focus (intro j u hj; match j, hj with | 0, hj => (simp at hj; subst hj; simp) | 1, hj => (simp at hj; subst hj; simp))); (focus (intro u hu; simp at hu; rcases hu with rfl | rfl <;> rfl)); intro v8 w8 hown8 hgr8 hbk8))
          have hbE : Below w7.heap.size w7 (w7.alloc (.cells #[.slice q7 (listS s).length c7, .int .i64 lst] 56)) := (Below.refl _ _).alloc (Nat.le_refl _) _
          have hb56 : Below w.heap.size w w6 := (hbw.on hb5).trans (hb6.mono (by have := hac1.size; omega))
          have hb57 : Below w.heap.size w w7 := hb56.on hb7
          have hb8 : Below w.heap.size w w8 := (hb57.on hbE).trans ((grown_below (hoD7.out.alloc _) (by simp; omega) hgr8).mono (by have := hac4.size; omega))
          have hsz5 := hb5.size
          have hsz6 := hfar6.1
          have hsz7 := hb7.size
          have hz6w : w.heap.size < w6.heap.size := by omega
          have hz7w : w.heap.size < w7.heap.size := by omega
          have hkw : some w.heap.size ≠ u6.ownBlock := fun e => by have := (HOD.out.lt _ e.symm).1; omega
          have hcell : ∀ (o : Nat) (v : Value), wr.cell? ⟨w.heap.size, o, none⟩ = some v → w8.cell? ⟨w.heap.size, o, none⟩ = some v := by
            intro o v h
            have h5 := (hb5.cell (p := ⟨w.heap.size, o, none⟩) hzw).trans h
            have h6 := (hb6.cell (p := ⟨w.heap.size, o, none⟩) hz0).trans h5
            have h7 := (hb7.cell (p := ⟨w.heap.size, o, none⟩) hz6w).trans h6
            have h7a := (hbE.cell (p := ⟨w.heap.size, o, none⟩) hz7w).trans h7
            exact hgr8.cell h7a hkw
          have hoC8 : w8.ownsRow w1.heap.size 128 3 (.slice (some ⟨g, 0, none⟩) cs.length c2) cs.length (flatC m cur2) :=
            ((owns_below HOC6.out (Nat.le_refl _) hb7).alloc _).kept hgr8 (.inr fun e => hvg (by rw [← e]; rfl))
          have hz8 := hgr8.size
          have hin8 : InL (ListB w8 g v8.ownBlock) (gv ++ [.slice q7 (listS s).length c7]) ((done ++ [(listS s, lst)]).map (·.1)) := by
            rw [List.map_append]
            refine InL.app (InL.mono (fun v l h => ?_) HIN.out) ⟨?_, trivial⟩
            · exact ListB_grown (ListB_below (ListB_below (ListB_far (ListB_below h hb5) hfar6) hb7) hbE) hgr8 hbk8
            · have hnew : ListB w7 g u6.ownBlock (.slice q7 (listS s).length c7) (listS s) := by
                refine ⟨q7, c7, rfl, hrow7, fun a ha => ?_⟩
                have h1 := hq7 a ha
                refine ⟨by omega, fun e => ?_, h1.2⟩
                have := (HOD.out.lt _ e.symm).2
                omega
              exact ListB_grown (ListB_below hnew hbE) hgr8 hbk8
          have hD8 : w8.ownsRow w4.heap.size 56 2 v8 (done ++ [(listS s, lst)]).length (flatD (gv ++ [.slice q7 (listS s).length c7]) (done ++ [(listS s, lst)])) := by
            rw [flatD_snoc gv done _ _ HGL.out, List.length_append]
            exact hown8
          have HIN8 := Lib.hid hin8
          have HD8 := Lib.hid hD8
          have HOC8 := Lib.hid hoC8
          have HK0 := Lib.hid (hcell 0 _ k0)
          have HK1 := Lib.hid (hcell 1 _ k1)
          have hz48 : w4.heap.size ≤ w8.heap.size := by simp at hz8; omega
          clear hin8 hD8 hoC8 hcell hown8 hgr8 hbk8 hrow7 hown7 hkw
          go_roundg f
          case measure => omega
          case rel => exact ⟨cur2, done ++ [(listS s, lst)], gv ++ [.slice q7 (listS s).length c7], HL2.out, HC2.out, HW2.out, HZ.out, by rw [← HDONE.out]; simp, by simp; omega, HOC8.out, HD8.out, by simp [HGL.out], HIN8.out, HK0.out, HK1.out, hb8, hz48⟩
    · have hans : duesOf ((m : Int).toNat) cs = ([], 12) := by
        unfold duesOf
        rw [Int.toNat_natCast, if_neg (fun h => h h0), if_pos hwet]
      rw [hans]
      have hwb2 : (((wetS m cs : Nat) : Int) != ((allS m : Nat) : Int)) = true := by
        have : ((wetS m cs : Nat) : Int) ≠ ((allS m : Nat) : Int) := by omega
        simpa using this
      clear hans h0 hr hb0 hchs c1 hch hdr hal hwet hwb
      go_enter Tryz.func21, Tryz.ntmps21
      go_upto_region 5 with (first
        | (go_at_call 18; refine C1.out.mono ?_; rintro e w1 ⟨rfl, hb1⟩; obtain ⟨hc1, hf1⟩ := bcell hb1; have hac1 : Below w.heap.size w w1 := HB.out.on hb1; have hz0 : w.heap.size < w1.heap.size := (by have := hb1.size; simp at this; omega))
        | (go_at_call 53; refine (HCH.out w1 hac1).mono ?_; rintro e w2 ⟨v2, rfl, hown2, hb2⟩))
      obtain ⟨d0, d1⟩ : w1.cell? ⟨w.heap.size, 0, none⟩ = some (.int .i64 m) ∧ w1.cell? ⟨w.heap.size, 1, none⟩ = some (.slice q cs.length cap) := ⟨by rw [hc1 _ _ (by simp)]; simp, by rw [hc1 _ _ (by simp)]; simp⟩
      have e0 := (hb2.cell (p := ⟨w.heap.size, 0, none⟩) hz0).trans d0
      have e1 := (hb2.cell (p := ⟨w.heap.size, 1, none⟩) hz0).trans d1
      have hz2 : w.heap.size < w2.heap.size := Nat.lt_of_lt_of_le hz0 hb2.size
      have hac2 := hac1.on hb2
      obtain ⟨q2, c2, rfl, hrow2, _, hqb2⟩ := rowV_of_owns hown2 (by intro h; rw [List.length_eq_zero_iff] at h; rw [h]; rfl)
      clear hc1 hf1 d0 d1
      go_region_held3 (fun W => W.cell? ⟨w.heap.size, 0, none⟩ = some (.int .i64 m) ∧ W.cell? ⟨w.heap.size, 1, none⟩ = some (.slice q cs.length cap)) (first | exact ⟨e0, e1⟩ | exact ⟨f0, f1⟩ | exact ⟨g0, g1⟩ | go_keep)
        (first
        | (go_at_call 52; refine (HDR.out _ q2 c2 (hrow2.below (Nat.le_refl _) (Below.refl _ _).drew)).mono ?_; rintro e w3 ⟨rfl, hb3'⟩; have hb3 : Below w2.heap.size w2 w3 := (((Below.refl _ _).drew).on hb3'); have f0 := (hb3.cell (p := ⟨w.heap.size, 0, none⟩) hz2).trans e0; have f1 := (hb3.cell (p := ⟨w.heap.size, 1, none⟩) hz2).trans e1; have hz3 : w.heap.size < w3.heap.size := Nat.lt_of_lt_of_le hz2 hb3.size)
        | (go_at_call 51; refine (HAL.out _).mono ?_; rintro e w4 ⟨rfl, hb4⟩; have g0 := (hb4.cell (p := ⟨w.heap.size, 0, none⟩) hz3).trans f0; have g1 := (hb4.cell (p := ⟨w.heap.size, 1, none⟩) hz3).trans f1)
        | fail)
      clear e0 e1 f0 f1 g0 g1 hrow2
      go_wp2
      go_ret2
      exact ⟨none, 0, [], rfl, duesAt_nil _, hac2.on (hb3.on hb4)⟩
  · have hans : duesOf n.toNat cs = ([], errD n cs) := by
      unfold duesOf
      rw [errD_nat, if_pos h0]
    rw [hans]
    have hb : (errD n cs != 0) = true := by simpa using h0
    unfold hillV at *
    have C1 := Lib.hid c1
    clear hans h0 hr hb0 c1
    go_enter Tryz.func21, Tryz.ntmps21
    go_wp2_with (go_at_call 18; refine C1.out.mono ?_; rintro e w1 ⟨rfl, hb1⟩)
    go_ret2
    exact ⟨none, 0, [], rfl, duesAt_nil _, HB.out.on hb1⟩
end Go.Proofs.YtadamjleglckpaaGreat.drn

/- The dues of a hill without a trap: each is one of the hill, and there are not more than channels. -/
namespace Go.Proofs.YtadamjleglckpaaGreat.drn
theorem groupErr_up {n : Nat} : ∀ (l : List Int) (b : Option Int), (∀ x ∈ l, 0 ≤ x ∧ x < n) → l.Pairwise (· < ·) → (∀ x, b = some x → ∀ y ∈ l, x < y) → groupErr n b l = 0
  | [], _, _, _, _ => rfl
  | g :: r, b, h1, h2, h3 => by
    rw [List.pairwise_cons] at h2
    unfold groupErr
    have hg := h1 g (by simp)
    rw [if_neg (by rw [(isGal_iff _ _).2 hg]; simp), if_neg ?_]
    · exact groupErr_up r (some g) (fun x hx => h1 x (by simp [hx])) h2.2 fun x hx y hy => by injection hx with hx; subst hx; exact h2.1 y hy
    · cases b with
      | none => simp [notUp]
      | some x => have := h3 x rfl g (by simp); simp [notUp]; omega
theorem listS_up (s : Nat) : (listS s).Pairwise (· < ·) := by
  unfold listS
  rw [List.pairwise_map]
  refine (List.Pairwise.sublist List.filter_sublist List.pairwise_lt_range).imp ?_
  intro a b h; omega
theorem listS_in {n s : Nat} (hs : s < 2 ^ n) : ∀ x ∈ listS s, 0 ≤ x ∧ x < n := by
  intro x hx
  unfold listS at hx
  obtain ⟨i, hi, rfl⟩ := List.mem_map.1 hx
  have hb := (List.mem_filter.1 hi).2
  refine ⟨by omega, ?_⟩
  by_cases h : i < n
  · omega
  · rw [Nat.testBit_lt_two_pow (Nat.lt_of_lt_of_le hs (Nat.pow_le_pow_right (by decide) (by omega)))] at hb
    cases hb
theorem gr_listS {n s : Nat} (hn : n ≤ 6) (h0 : s ≠ 0) (hs : s < 2 ^ n) : grErr n (listS s) = 0 := by
  unfold grErr
  rw [if_neg ?_]
  · exact groupErr_up _ none (listS_in hs) (listS_up s) (by simp)
  · obtain ⟨j, hj⟩ := bit_of_ne h0
    have hj6 : j < 6 := by
      by_cases h : j < 6
      · exact h
      · rw [Nat.testBit_lt_two_pow (Nat.lt_of_lt_of_le hs (Nat.pow_le_pow_right (by decide) (by omega)))] at hj
        cases hj
    intro e
    have : (j : Int) ∈ listS s := List.mem_map.2 ⟨j, List.mem_filter.2 ⟨List.mem_range.2 hj6, hj⟩, rfl⟩
    rw [List.length_eq_zero_iff.1 e] at this
    simp at this
theorem dues_each {n : Nat} : ∀ (f : Nat) {cs : List Ch}, Chs n cs → wetS n cs = allS n → (∀ d ∈ duesF n f cs, grErr n d.1 = 0 ∧ 1 ≤ d.2 ∧ d.2 ≤ 20) ∧ (duesF n f cs).length + zeros cs ≤ cs.length
  | 0, cs, _, _ => ⟨by simp [duesF], by have := zeros_le cs; simpa [duesF] using this⟩
  | f + 1, cs, hc, hw => by
    cases hp : payerS n cs with
    | none => rw [duesF_done hp]; exact ⟨by simp, by have := zeros_le cs; simpa using this⟩
    | some s =>
      rw [duesF_step hp]
      obtain ⟨hs, hsp⟩ := payer_in hp
      obtain ⟨s0, s1⟩ := mem_groups.1 hs
      have hex := leaves_some hc hw hs
      obtain ⟨⟨c, hcm, hcl, hck⟩, hle⟩ := least_of (cs := cs) (s := s) (fun c h => ⟨(hc.ok c h).2.2.2.1, (hc.ok c h).2.2.2.2⟩) hex
      have hk0 : 0 < leastLeft cs s := by
        have h0 := (hc.ok c hcm).2.2.2.1
        have : c.2.2 ≠ 0 := by
          intro e
          rw [List.any_eq_false] at hsp
          have := hsp c hcm
          unfold spentC at this
          rw [hcl, e] at this
          simp at this
        omega
      have hk20 : leastLeft cs s ≤ 20 := by have := (hc.ok c hcm).2.2.2.2; omega
      have hz := least_pays hk0 hsp ⟨c, hcm, hcl, hck⟩
      obtain ⟨k1, k2⟩ := dues_each f (take_ok hc hex) (by rw [wet_take]; exact hw)
      have hlen : (takeLeft cs s (leastLeft cs s)).length = cs.length := by unfold takeLeft; simp
      refine ⟨fun d hd => ?_, by rw [List.length_cons]; omega⟩
      rcases List.mem_cons.1 hd with rfl | hd
      · exact ⟨gr_listS hc.n6 s0 s1, hk0, hk20⟩
      · exact k1 d hd
end Go.Proofs.YtadamjleglckpaaGreat.drn

/- What dues prove of a cheapest plan, plainly (for DrainShown). -/
namespace Go.Proofs.YtadamjleglckpaaGreat.drn
open Go.RowKit
set_option linter.unusedSimpArgs false
set_option linter.unusedVariables false
theorem dsErr_zero {n : Int} : ∀ {ds : List Du}, (∀ d ∈ ds, grErr n d.1 = 0 ∧ 1 ≤ d.2 ∧ d.2 ≤ 280) → dsErr n ds = 0
  | [], _ => rfl
  | d :: r, h => by
    obtain ⟨h1, h2, h3⟩ := h d (by simp)
    rw [dsErr, if_neg (fun k => k h1), if_neg (by omega)]
    exact dsErr_zero fun x hx => h x (by simp [hx])
theorem duErr_zero {n : Int} {ds : List Du} (hl : ds.length ≤ 20) (h : ∀ d ∈ ds, grErr n d.1 = 0 ∧ 1 ≤ d.2 ∧ d.2 ≤ 280) : duErr n ds = 0 := by
  unfold duErr
  rw [if_neg (by omega), dsErr_zero h]
/-- dues of groups against a plan of the hill -/
theorem proves_plan {n : Nat} {cs : List Ch} (hc : Chs n cs) (h0 : errD n cs = 0) {p : List Int} (hp : p ∈ plansS n cs) {ds : List Du} (hd : duErr n ds = 0) :
    provesOf n cs p ds = if (List.zip (chargeS cs ds) cs).any (fun x => decide (x.2.2.2 < x.1)) then 15 else if ds.foldl (fun k d => k + d.2) 0 ≠ costS cs p then 14 else 0 := by
  have hv : validOf n cs p = 0 := (validOf_iff h0 p).2 ((mem_plansS hc.n1 hc.ok p).1 hp)
  unfold provesOf
  rw [if_neg (fun h => h hv), if_neg (fun h => h hd)]
/-- a channel that is charged too much, by numbers -/
theorem over_iff (cs : List Ch) (ds : List Du) : ((List.zip (chargeS cs ds) cs).any (fun x => decide (x.2.2.2 < x.1)) = true) ↔ ∃ i, i < cs.length ∧ (cs.getD i (0, 0, 0)).2.2 < (chargeS cs ds).getD i 0 := by
  have hl : (chargeS cs ds).length = cs.length := by simp [chargeS]
  rw [List.any_eq_true]
  constructor
  · rintro ⟨x, hx, h⟩
    obtain ⟨i, hi, rfl⟩ := List.getElem_of_mem hx
    have hi2 : i < cs.length := by rw [List.length_zip] at hi; omega
    refine ⟨i, hi2, ?_⟩
    rw [List.getElem_zip] at h
    rw [getD_eq cs i (0, 0, 0) hi2, getD_eq (chargeS cs ds) i 0 (by omega)]
    simpa using h
  · rintro ⟨i, hi, h⟩
    have hz : i < (List.zip (chargeS cs ds) cs).length := by rw [List.length_zip]; omega
    refine ⟨(List.zip (chargeS cs ds) cs)[i], List.getElem_mem hz, ?_⟩
    rw [List.getElem_zip]
    rw [getD_eq cs i (0, 0, 0) hi, getD_eq (chargeS cs ds) i 0 (by omega)] at h
    simpa using h
end Go.Proofs.YtadamjleglckpaaGreat.drn

/- P2.8 plainly: the dues of a hill charge no channel more than its cost, are together what a cheapest plan costs, and charge a channel of a cheapest plan just its cost. -/
namespace Go.Proofs.YtadamjleglckpaaGreat.drn
set_option linter.unusedSimpArgs false
set_option linter.unusedVariables false
/-- some channels, one from each gallery of a set, all of a list, by which all of them drain -/
def DrainedA (n : Nat) (cs A : List Ch) (d : Nat) : Prop :=
  ∃ P : Nat → Bool, (∀ i, i < cs.length → P i = true → inS d (chAt cs i).1 = true ∧ chAt cs i ∈ A) ∧
    (∀ i j, i < cs.length → j < cs.length → P i = true → P j = true → (chAt cs i).1 = (chAt cs j).1 → i = j) ∧
    ∀ g : Nat, inS d g = true → (∃ i, i < cs.length ∧ P i = true ∧ (chAt cs i).1 = g) ∧ Wet n (chosenS cs (selP cs P)) g
theorem drainedA_step {n : Nat} {cs A : List Ch} (hc : ∀ c ∈ cs, ChOk n c) (hA : ∀ c ∈ A, c ∈ cs) : ∀ (r : List Ch) (d : Nat), (∀ c ∈ r, c ∈ A) → DrainedA n cs A d → DrainedA n cs A (wetStep n r d)
  | [], d, _, h => h
  | c :: r, d, hr, h => by
    unfold wetStep
    rw [List.foldl_cons]
    refine drainedA_step hc hA r _ (fun x hx => hr x (by simp [hx])) ?_
    split
    · rename_i hw
      have hmA := hr c (by simp)
      have hm := hA c hmA
      obtain ⟨⟨a0, a1⟩, ⟨b0, b1⟩, _⟩ := hc c hm
      have e1 : ((c.1.toNat : Nat) : Int) = c.1 := by omega
      have e2 : ((c.2.1.toNat : Nat) : Int) = c.2.1 := by omega
      cases hin : inS d c.1 with
      | true =>
        have hd : d ||| 1 <<< c.1.toNat = d := by
          apply Nat.eq_of_testBit_eq
          intro j
          rw [Nat.testBit_or, bit_one]
          by_cases e : c.1.toNat = j
          · subst e
            unfold inS at hin
            rw [Bool.and_eq_true] at hin
            rw [hin.2]; rfl
          · simp [e]
        rw [hd]; exact h
      | false =>
        obtain ⟨P, p1, p2, p3⟩ := h
        obtain ⟨i, hi, rfl⟩ := List.getElem_of_mem hm
        have hci : chAt cs i = cs[i] := by rw [chAt, List.getD_eq_getElem?_getD, List.getElem?_eq_getElem hi]; rfl
        refine ⟨fun j => P j || decide (j = i), ?_, ?_, ?_⟩
        · intro j hj hp
          rw [inS_or, Bool.or_eq_true]
          rcases Bool.or_eq_true _ _ ▸ hp with hp | hp
          · exact ⟨.inl (p1 j hj hp).1, (p1 j hj hp).2⟩
          · have e := of_decide_eq_true hp
            subst e
            rw [hci]
            refine ⟨?_, hmA⟩
            rw [← e1, inS_one]
            exact .inr (by simp; omega)
        · intro j k hj hk hpj hpk he
          rcases Bool.or_eq_true _ _ ▸ hpj with h1 | h1 <;> rcases Bool.or_eq_true _ _ ▸ hpk with h2 | h2
          · exact p2 j k hj hk h1 h2 he
          · have e := of_decide_eq_true h2
            subst e
            have := (p1 j hj h1).1
            rw [he, hci, hin] at this
            cases this
          · have e := of_decide_eq_true h1
            subst e
            have := (p1 k hk h2).1
            rw [← he, hci, hin] at this
            cases this
          · rw [of_decide_eq_true h1, of_decide_eq_true h2]
        · have hsub : ∀ x ∈ chosenS cs (selP cs P), x ∈ chosenS cs (selP cs fun j => P j || decide (j = i)) := by
            intro x hx
            obtain ⟨j, h1, h2, h3⟩ := mem_selP.1 hx
            exact mem_selP.2 ⟨j, h1, by simp [h2], h3⟩
          intro g hg
          rw [inS_or, Bool.or_eq_true] at hg
          rcases hg with hg | hg
          · obtain ⟨⟨j, h1, h2, h3⟩, h4⟩ := p3 g hg
            exact ⟨⟨j, h1, by simp [h2], h3⟩, h4.mono hsub⟩
          · rw [inS_one] at hg
            have eg := of_decide_eq_true hg
            have egi : (g : Int) = cs[i].1 := by omega
            refine ⟨⟨i, hi, by simp, by rw [hci, egi]⟩, ?_⟩
            rw [egi, ← hci]
            refine Wet.step (chAt cs i) (mem_selP.2 ⟨i, hi, by simp, rfl⟩) ?_
            rw [hci]
            simp only [Bool.or_eq_true, beq_iff_eq] at hw
            rcases hw with hw | hw
            · rw [hw]; exact Wet.mouth
            · rw [← e2] at hw ⊢
              exact (p3 _ hw).2.mono hsub
    · exact h
theorem drainedA_to {n : Nat} {cs A : List Ch} (hc : ∀ c ∈ cs, ChOk n c) (hA : ∀ c ∈ A, c ∈ cs) : ∀ k, DrainedA n cs A (wetTo n A k 0)
  | 0 => ⟨fun _ => false, by simp, by simp, fun g hg => by simp [wetTo, inS] at hg⟩
  | k + 1 => by rw [wetTo_step]; exact drainedA_step hc hA A _ (fun _ h => h) (drainedA_to hc hA k)
/-- a plan of some of the channels -/
theorem planA_in {n : Nat} {cs A : List Ch} (hn : n ≤ 6) (hc : ∀ c ∈ cs, ChOk n c) (hA : ∀ c ∈ A, c ∈ cs) (hw : wetS n A = allS n) : ∃ l, Plan n cs l ∧ ∀ c ∈ chosenS cs l, c ∈ A := by
  obtain ⟨P, p1, p2, p3⟩ := drainedA_to hc hA 7
  have hw' : wetTo n A 7 0 = allS n := hw
  rw [hw'] at p1 p3
  have hall : ∀ g : Nat, g < n → inS (allS n) g = true := (allS_iff (s := allS n) (by have := Nat.two_pow_pos n; unfold allS; omega)).1 rfl
  have hok : ∀ i, i < cs.length → ChOk n (chAt cs i) := fun i hi => getD_ok hc hi
  obtain ⟨m1, m2⟩ := ext_of cs ((List.range cs.length).filter P) 0 0 (List.Pairwise.sublist List.filter_sublist List.pairwise_lt_range) (fun i hi => by
    have hi' := List.mem_range.1 (List.mem_filter.1 hi).1
    exact ⟨Nat.zero_le _, hi', (hok i hi').1.1, by simp [inS]⟩) (by
    refine List.Pairwise.imp_of_mem ?_ (List.Pairwise.sublist List.filter_sublist (List.pairwise_lt_range (n := cs.length)))
    intro a b ha hb hlt he
    obtain ⟨ha1, ha2⟩ := List.mem_filter.1 ha
    obtain ⟨hb1, hb2⟩ := List.mem_filter.1 hb
    have := p2 a b (List.mem_range.1 ha1) (List.mem_range.1 hb1) ha2 hb2 he
    omega)
  have hsA : ∀ c ∈ chosenS cs (selP cs P), c ∈ A := fun c hm => by
    obtain ⟨i, h1, h2, rfl⟩ := mem_selP.1 hm
    exact (p1 i h1 h2).2
  have hc2 : ∀ c ∈ chosenS cs (selP cs P), ChOk n c := fun c hm => hc c (hA c (hsA c hm))
  refine ⟨selP cs P, ⟨m1, ?_, (wetS_all hn hc2).2 fun g hg => (p3 g (hall g hg)).2⟩, hsA⟩
  refine (allS_iff ((Ext.size hn hc _ 0 0 m1).2 (Nat.two_pow_pos n))).2 fun g hg => (m2 g).2 (.inr ?_)
  obtain ⟨i, h1, h2, h3⟩ := (p3 g (hall g hg)).1
  exact ⟨i, List.mem_filter.2 ⟨List.mem_range.2 h1, h2⟩, h3⟩

/-! sums -/
def sumC (f : Ch → Int) (L : List Ch) : Int := (L.map f).sum
theorem sumC_cons (f : Ch → Int) (c : Ch) (L : List Ch) : sumC f (c :: L) = f c + sumC f L := by simp [sumC]
theorem sumC_erase (f : Ch → Int) : ∀ (L : List Ch) (c : Ch), c ∈ L → sumC f L = f c + sumC f (L.erase c)
  | [], c, h => by cases h
  | x :: r, c, h => by
    by_cases e : x = c
    · subst e; rw [List.erase_cons_head, sumC_cons]
    · have hc : c ∈ r := (List.mem_cons.1 h).resolve_left fun h => e h.symm
      rw [List.erase_cons_tail (by simpa using e), sumC_cons, sumC_cons, sumC_erase f r c hc]
      omega
theorem sumC_nonneg (f : Ch → Int) : ∀ (L : List Ch), (∀ c ∈ L, 0 ≤ f c) → 0 ≤ sumC f L
  | [], _ => by simp [sumC]
  | c :: r, h => by
    rw [sumC_cons]
    have h1 := h c (by simp)
    have h2 := sumC_nonneg f r fun x hx => h x (by simp [hx])
    omega
theorem sumC_le (f : Ch → Int) : ∀ (L K : List Ch), L.Nodup → (∀ c ∈ K, 0 ≤ f c) → (∀ c ∈ L, c ∈ K ∨ f c = 0) → sumC f L ≤ sumC f K
  | [], K, _, h0, _ => by have := sumC_nonneg f K h0; simpa [sumC] using this
  | c :: r, K, hn, h0, h => by
    rw [List.nodup_cons] at hn
    rw [sumC_cons]
    by_cases hm : c ∈ K
    · rw [sumC_erase f K c hm]
      have := sumC_le f r (K.erase c) hn.2 (fun x hx => h0 x (List.mem_of_mem_erase hx)) fun x hx => by
        rcases h x (by simp [hx]) with h1 | h1
        · have : x ≠ c := fun e => hn.1 (e ▸ hx)
          exact .inl ((List.mem_erase_of_ne this).2 h1)
        · exact .inr h1
      omega
    · rcases h c (by simp) with h1 | h1
      · exact absurd h1 hm
      · have := sumC_le f r K hn.2 h0 fun x hx => h x (by simp [hx])
        omega
theorem sumC_congr {f g : Ch → Int} : ∀ (L : List Ch), (∀ c ∈ L, f c = g c) → sumC f L = sumC g L
  | [], _ => rfl
  | c :: r, h => by rw [sumC_cons, sumC_cons, h c (by simp), sumC_congr r fun x hx => h x (by simp [hx])]
theorem sumC_mono {f g : Ch → Int} : ∀ (L : List Ch), (∀ c ∈ L, f c ≤ g c) → sumC f L ≤ sumC g L ∧ (sumC f L = sumC g L → ∀ c ∈ L, f c = g c)
  | [], _ => ⟨Int.le_refl _, fun _ c h => by cases h⟩
  | c :: r, h => by
    rw [sumC_cons, sumC_cons]
    have h1 := h c (by simp)
    obtain ⟨h2, h3⟩ := sumC_mono r fun x hx => h x (by simp [hx])
    refine ⟨by omega, fun e x hx => ?_⟩
    rcases List.mem_cons.1 hx with rfl | hx
    · omega
    · exact h3 (by omega) x hx
theorem sumC_add (f g : Ch → Int) : ∀ (L : List Ch), sumC (fun c => f c + g c) L = sumC f L + sumC g L
  | [] => rfl
  | c :: r => by rw [sumC_cons, sumC_cons, sumC_cons, sumC_add f g r]; omega
def price (c : Ch) : Int := c.2.2
theorem costS_eq (cs : List Ch) (l : List Int) : costS cs l = sumC price (chosenS cs l) := by
  have key : ∀ (l : List Int) (k : Int), l.foldl (fun k i => k + (cs.getD i.toNat (0, 0, 0)).2.2) k = k + sumC price (chosenS cs l) := by
    intro l
    induction l with
    | nil => intro k; simp [sumC, chosenS]
    | cons x r ih =>
      intro k
      rw [List.foldl_cons, ih]
      show _ = k + sumC price ((cs.getD x.toNat (0, 0, 0)) :: chosenS cs r)
      rw [sumC_cons]
      unfold price
      omega
  have := key l 0
  unfold costS
  omega
/-- what dues pay together -/
def sumP (ds : List Du) : Int := (ds.map (·.2)).sum
theorem sumP_cons (d : Du) (ds : List Du) : sumP (d :: ds) = d.2 + sumP ds := by simp [sumP]
theorem sumP_eq (ds : List Du) : ds.foldl (fun k d => k + d.2) 0 = sumP ds := by
  have key : ∀ (l : List Du) (k : Int), l.foldl (fun k d => k + d.2) k = k + sumP l := by
    intro l
    induction l with
    | nil => intro k; simp [sumP]
    | cons x r ih => intro k; rw [List.foldl_cons, ih, sumP_cons]; omega
  have := key ds 0
  omega
theorem chargeOne_cons (d : Du) (ds : List Du) (c : Ch) : chargeOne (d :: ds) c = (if leavesS (setS d.1) c then d.2 else 0) + chargeOne ds c := by
  have key : ∀ (l : List Du) (k : Int), l.foldl (fun k d => if leavesS (setS d.1) c then k + d.2 else k) k = k + l.foldl (fun k d => if leavesS (setS d.1) c then k + d.2 else k) 0 := by
    intro l
    induction l with
    | nil => intro k; simp
    | cons x r ih =>
      intro k
      rw [List.foldl_cons, List.foldl_cons, ih, ih (if leavesS (setS x.1) c = true then 0 + x.2 else 0)]
      split <;> omega
  unfold chargeOne
  rw [List.foldl_cons, key]
  split <;> omega
theorem setS_listS {s : Nat} (hs : s < 64) : setS (listS s) = s := by
  have h : ∀ s : Nat, s < 64 → setS (listS s) = s := by decide +kernel
  exact h s hs

/-! plans -/
theorem ext_apart {n : Nat} {cs : List Ch} (hc : ∀ c ∈ cs, ChOk n c) : ∀ (l : List Int) (lo s : Nat), Ext cs lo s l → (∀ c ∈ chosenS cs l, inS s c.1 = false ∧ c ∈ cs) ∧ (chosenS cs l).Nodup
  | [], _, _, _ => ⟨fun c h => (by cases h), List.nodup_nil⟩
  | x :: r, lo, s, ⟨⟨h1, h2⟩, h3, h4⟩ => by
    obtain ⟨i1, i2⟩ := ext_apart hc r _ _ h4
    have hx : x.toNat < cs.length := by omega
    have hm : cs.getD x.toNat (0, 0, 0) ∈ cs := getD_mem cs _ _ hx
    have h0 := (hc _ hm).1.1
    have ef : (((frm cs x).toNat : Nat) : Int) = frm cs x := by unfold frm; omega
    have hin : ∀ c ∈ chosenS cs r, inS s c.1 = false ∧ c.1 ≠ frm cs x ∧ c ∈ cs := fun c hm => by
      obtain ⟨k1, k2⟩ := i1 c hm
      rw [inS_or, Bool.or_eq_false_iff] at k1
      refine ⟨k1.1, fun e => ?_, k2⟩
      have k3 := k1.2
      rw [e] at k3
      have kk : ∀ (m : Nat) (y : Int), (m : Int) = y → inS (1 <<< m) y = true := fun m y hy => by rw [← hy, inS_one]; simp
      rw [kk _ _ ef] at k3
      cases k3
    have e : chosenS cs (x :: r) = cs.getD x.toNat (0, 0, 0) :: chosenS cs r := rfl
    rw [e]
    refine ⟨fun c hcm => ?_, List.nodup_cons.2 ⟨fun hcm => ?_, i2⟩⟩
    · rcases List.mem_cons.1 hcm with rfl | hcm
      · exact ⟨h3, hm⟩
      · exact ⟨(hin c hcm).1, (hin c hcm).2.2⟩
    · exact (hin _ hcm).2.1 rfl
/-- a plan leaves each group -/
theorem plan_leaves {n : Nat} {cs : List Ch} (hn : n ≤ 6) (hc : ∀ c ∈ cs, ChOk n c) {l : List Int} (hp : Plan n cs l) {s : Nat} (hs : s ∈ groupsS n 0) : ∃ c ∈ chosenS cs l, leavesS s c = true := by
  apply Classical.byContradiction
  intro hno
  have hcc : ∀ c ∈ chosenS cs l, ChOk n c := fun c hm => hc c ((ext_apart hc l 0 0 hp.1).1 c hm).2
  refine (trap_iff hn hcc).1 ⟨s, hs, fun c hm => ?_⟩ hp.2.2
  apply Classical.byContradiction
  intro h
  exact hno ⟨c, hm, by simpa using h⟩
/-- what dues of groups pay together is at most what they charge a plan -/
theorem charge_plan {n : Nat} {cs : List Ch} (hn : n ≤ 6) (hc : ∀ c ∈ cs, ChOk n c) {l : List Int} (hp : Plan n cs l) : ∀ (ds : List Du), (∀ d ∈ ds, setS d.1 ∈ groupsS n 0 ∧ 0 ≤ d.2) → sumP ds ≤ sumC (chargeOne ds) (chosenS cs l)
  | [], _ => by
    have : sumC (chargeOne []) (chosenS cs l) = 0 := by
      generalize chosenS cs l = L
      induction L with
      | nil => rfl
      | cons c r ih => rw [sumC_cons, ih]; rfl
    rw [this]; simp [sumP]
  | d :: ds, h => by
    have ih := charge_plan hn hc hp ds fun x hx => h x (by simp [hx])
    obtain ⟨hs, h0⟩ := h d (by simp)
    obtain ⟨c, hm, hl⟩ := plan_leaves hn hc hp hs
    rw [sumP_cons, sumC_congr (g := fun c => (if leavesS (setS d.1) c then d.2 else 0) + chargeOne ds c) _ (fun c _ => chargeOne_cons d ds c), sumC_add]
    have h1 := sumC_erase (fun c => if leavesS (setS d.1) c then d.2 else 0) (chosenS cs l) c hm
    have h2 := sumC_nonneg (fun c => if leavesS (setS d.1) c then d.2 else 0) ((chosenS cs l).erase c) (fun x _ => by show 0 ≤ (if leavesS (setS d.1) x then d.2 else 0); split <;> omega)
    rw [if_pos hl] at h1
    omega
/-! what is left -/
def tk (s : Nat) (y : Int) (c : Ch) : Ch := if leavesS s c then (c.1, c.2.1, c.2.2 - y) else c
theorem tk_ends (s : Nat) (y : Int) (c : Ch) : ends (tk s y c) = ends c := by
  unfold tk
  split <;> rfl
theorem leaves_ends {s : Nat} {c d : Ch} (h : ends c = ends d) : leavesS s c = leavesS s d := by
  unfold ends at h
  unfold leavesS
  injection h with h1 h2
  rw [h1, h2]
theorem chargeOne_ends {c d : Ch} (h : ends c = ends d) : ∀ ds : List Du, chargeOne ds c = chargeOne ds d
  | [] => rfl
  | x :: r => by rw [chargeOne_cons, chargeOne_cons, leaves_ends h, chargeOne_ends h r]
theorem take_map (cs : List Ch) (s : Nat) (y : Int) : takeLeft cs s y = cs.map (tk s y) := rfl
theorem take_getD (cs : List Ch) (s : Nat) (y : Int) {i : Nat} (hi : i < cs.length) : (takeLeft cs s y).getD i (0, 0, 0) = tk s y (cs.getD i (0, 0, 0)) := by
  rw [take_map, getD_eq _ i _ (by simpa using hi), getD_eq cs i _ hi, List.getElem_map]
theorem chosen_take {cs : List Ch} {s : Nat} {y : Int} : ∀ {l : List Int}, InR cs l → chosenS (takeLeft cs s y) l = (chosenS cs l).map (tk s y)
  | [], _ => rfl
  | x :: r, h => by
    have hx := h x (by simp)
    show (takeLeft cs s y).getD x.toNat (0, 0, 0) :: chosenS (takeLeft cs s y) r = tk s y (cs.getD x.toNat (0, 0, 0)) :: (chosenS cs r).map (tk s y)
    rw [take_getD cs s y (by omega), chosen_take fun z hz => h z (by simp [hz])]
theorem ends_tk (s : Nat) (y : Int) (L : List Ch) : (L.map (tk s y)).map ends = L.map ends := by
  rw [List.map_map]
  exact List.map_congr_left fun c _ => tk_ends s y c
theorem ext_take {cs : List Ch} {t : Nat} {y : Int} : ∀ (l : List Int) (lo s : Nat), InR cs l → (Ext (takeLeft cs t y) lo s l ↔ Ext cs lo s l) ∧ addS (takeLeft cs t y) s l = addS cs s l
  | [], lo, s, _ => ⟨Iff.rfl, rfl⟩
  | x :: r, lo, s, h => by
    have hx := h x (by simp)
    have hf : frm (takeLeft cs t y) x = frm cs x := by
      unfold frm
      rw [take_getD cs t y (by omega)]
      have h := tk_ends t y (cs.getD x.toNat (0, 0, 0))
      unfold ends at h
      exact congrArg (fun p : Int × Int => p.1) h
    have hl : (takeLeft cs t y).length = cs.length := by simp [takeLeft]
    obtain ⟨i1, i2⟩ := ext_take (cs := cs) (t := t) (y := y) r (x.toNat + 1) (s ||| 1 <<< (frm cs x).toNat) fun z hz => h z (by simp [hz])
    refine ⟨?_, ?_⟩
    · show (_ ∧ x < ((takeLeft cs t y).length : Int)) ∧ _ ∧ _ ↔ (_ ∧ x < (cs.length : Int)) ∧ _ ∧ _
      rw [hf, hl, i1]
    · show addS (takeLeft cs t y) (s ||| 1 <<< (frm (takeLeft cs t y) x).toNat) r = addS cs (s ||| 1 <<< (frm cs x).toNat) r
      rw [hf, i2]
theorem plan_take {n : Nat} {cs : List Ch} {s : Nat} {y : Int} {l : List Int} : Plan n (takeLeft cs s y) l ↔ Plan n cs l := by
  have hl : (takeLeft cs s y).length = cs.length := by simp [takeLeft]
  have key : InR cs l → (Plan n (takeLeft cs s y) l ↔ Plan n cs l) := fun h => by
    obtain ⟨i1, i2⟩ := ext_take (t := s) (y := y) l 0 0 h
    unfold Plan
    rw [i1, i2, chosen_take h]
    have := wetTo_alike n (ends_tk s y (chosenS cs l)) 7 0
    have hw : wetS n ((chosenS cs l).map (tk s y)) = wetS n (chosenS cs l) := this
    rw [hw]
  constructor
  · intro h
    refine (key fun x hx => ?_).1 h
    have := ext_in h.1 x hx
    rw [hl] at this
    exact this
  · intro h
    exact (key (ext_in h.1)).2 h
/-- the first payer: its galleries, and what is left of smaller groups -/
theorem payer_some {n : Nat} {cs : List Ch} {s : Nat} (h : payerS n cs = some s) : s ∈ groupsS n 0 ∧ cs.any (spentC s) = false ∧ ∀ t, t ∈ groupsS n 0 → t ≠ s → t &&& s = t → cs.any (spentC t) = true := by
  obtain ⟨h1, h2⟩ := payer_in h
  refine ⟨h1, h2, fun t ht hne hsub => ?_⟩
  rw [payerS_eq] at h
  have h3 := List.find?_some h
  cases hq : cs.any (spentC t) with
  | true => rfl
  | false =>
    have : (payersS n cs).any (smaller s) = true := List.any_eq_true.2 ⟨t, by rw [payersS_eq]; exact List.mem_filter.2 ⟨ht, by simp [hq]⟩, by unfold smaller; simp [hne, hsub]⟩
    rw [this] at h3
    cases h3
/-- no payer: each group has a channel out of which nothing is left -/
theorem payer_none {n : Nat} {cs : List Ch} (h : payerS n cs = none) : ∀ t, t ∈ groupsS n 0 → cs.any (spentC t) = true := by
  rw [payerS_eq, List.find?_eq_none] at h
  have key : ∀ (k t : Nat), t ≤ k → t ∉ payersS n cs := by
    intro k
    induction k with
    | zero =>
      intro t ht hm
      rw [payersS_eq] at hm
      have := (mem_groups.1 (List.mem_filter.1 hm).1).1
      omega
    | succ k ih =>
      intro t ht hm
      have h1 := h t hm
      have h2 : (payersS n cs).any (smaller t) = true := by simpa using h1
      obtain ⟨u, hu, hs⟩ := List.any_eq_true.1 h2
      unfold smaller at hs
      simp only [Bool.and_eq_true, bne_iff_ne, ne_eq, beq_iff_eq] at hs
      have hle : u ≤ t := by rw [← hs.2]; exact Nat.and_le_right
      exact ih u (by omega) hu
  intro t ht
  cases hq : cs.any (spentC t) with
  | true => rfl
  | false => exact absurd (by rw [payersS_eq]; exact List.mem_filter.2 ⟨ht, by simp [hq]⟩) (key t t (Nat.le_refl _))
theorem inS_and (s t : Nat) (g : Int) : inS (s &&& t) g = (inS s g && inS t g) := by
  unfold inS
  rw [Nat.testBit_and]
  cases decide (0 ≤ g) <;> simp
theorem inS_zero (g : Int) : inS 0 g = false := by simp [inS]
set_option maxRecDepth 10000 in
/-- a plan of what is left, turned into one from which the payers leave once -/
theorem step_plan {n : Nat} {cs : List Ch} (hc : Chs n cs) (hw : wetS n cs = allS n) {s : Nat} (hp : payerS n cs = some s) {l : List Int} (hl : Plan n cs l) :
    ∃ l', Plan n cs l' ∧ costS cs l' ≤ leastLeft cs s + costS (takeLeft cs s (leastLeft cs s)) l := by
  obtain ⟨hsg, hsp, hmin⟩ := payer_some hp
  obtain ⟨s0, s1⟩ := mem_groups.1 hsg
  have hex := leaves_some hc hw hsg
  have hct := take_ok hc hex
  generalize leastLeft cs s = y at hct
  obtain ⟨hLc, hLn⟩ := ext_apart hc.ok l 0 0 hl.1
  have hcost : costS (takeLeft cs s y) l = sumC (fun c => price (tk s y c)) (chosenS cs l) := by
    rw [costS_eq, chosen_take (ext_in hl.1)]
    unfold sumC
    rw [List.map_map]
    rfl
  have hpl := fun g hg => plan_leaves hc.n6 hc.ok hl (s := g) hg
  generalize chosenS cs l = L at hLc hLn hcost hpl
  rw [hcost]
  have hB : ∀ c, c ∈ L.filter (fun c => !inS s c.1) ↔ c ∈ L ∧ inS s c.1 = false := fun c => by rw [List.mem_filter]; simp
  have hBn : (L.filter (fun c => !inS s c.1)).Nodup := hLn.sublist List.filter_sublist
  generalize L.filter (fun c => !inS s c.1) = B at hB hBn
  have hcB : ∀ c ∈ B, ChOk n c := fun c hm => hc.ok c (hLc c ((hB c).1 hm).1).2
  have hwb : ∀ j : Nat, j < n → ((wetS n B).testBit j = true ↔ Wet n B j) := fun j hj => by
    rw [← wetS_iff hc.n6 hcB hj]; simp [inS]
  have hsub : ∀ j : Nat, s.testBit j = true → (dryS n B).testBit j = true := fun j hj => by
    have hjn : j < n := by
      apply Classical.byContradiction
      intro h
      rw [Nat.testBit_lt_two_pow (Nat.lt_of_lt_of_le s1 (Nat.pow_le_pow_right (by decide) (by omega)))] at hj
      cases hj
    rw [dryS_bit hcB, Bool.and_eq_true]
    refine ⟨decide_eq_true hjn, ?_⟩
    cases hq : (wetS n B).testBit j with
    | false => rfl
    | true =>
      have hW := (hwb j hjn).1 hq
      have key : ∀ g : Int, Wet n B g → g ≠ j := by
        intro g hg
        cases hg with
        | mouth => omega
        | step c hm _ =>
          intro e
          have := ((hB c).1 hm).2
          rw [e] at this
          unfold inS at this
          rw [Int.toNat_natCast, hj] at this
          simp at this
      exact absurd rfl (key _ hW)
  have hDg : dryS n B ∈ groupsS n 0 := by
    refine mem_groups.2 ⟨fun h => ?_, ?_⟩
    · obtain ⟨j, hj⟩ := bit_of_ne s0
      have := hsub j hj
      rw [h] at this
      simp at this
    · have := Nat.two_pow_pos n
      unfold dryS allS
      omega
  obtain ⟨c0, hc0, hlv⟩ := hpl _ hDg
  have hk0 := hc.ok c0 (hLc c0 hc0).2
  obtain ⟨⟨a0, a1⟩, ⟨b0, b1⟩, _⟩ := hk0
  unfold leavesS at hlv
  rw [Bool.and_eq_true] at hlv
  obtain ⟨hf, ht⟩ := hlv
  have htw : Wet n B c0.2.1 := by
    by_cases e : c0.2.1 = n
    · rw [e]; exact Wet.mouth
    · obtain ⟨j, hj⟩ : ∃ j : Nat, c0.2.1 = j := ⟨c0.2.1.toNat, by omega⟩
      rw [hj] at ht ⊢
      have hjn : j < n := by omega
      refine (hwb j hjn).1 ?_
      unfold inS at ht
      rw [Int.toNat_natCast, dryS_bit hcB] at ht
      simpa [hjn] using ht
  have hfs : inS s c0.1 = true := by
    cases hq : inS s c0.1 with
    | true => rfl
    | false =>
      have hm : c0 ∈ B := (hB c0).2 ⟨hc0, hq⟩
      have hW : Wet n B c0.1 := Wet.step c0 hm htw
      obtain ⟨j, hj⟩ : ∃ j : Nat, c0.1 = j := ⟨c0.1.toNat, by omega⟩
      rw [hj] at hW hf
      have hjn : j < n := by omega
      have := (hwb j hjn).2 hW
      unfold inS at hf
      rw [Int.toNat_natCast, dryS_bit hcB, this] at hf
      simp at hf
  have hts : inS s c0.2.1 = false := by
    cases hq : inS s c0.2.1 with
    | false => rfl
    | true =>
      have h1 : s.testBit c0.2.1.toNat = true := by unfold inS at hq; rw [Bool.and_eq_true] at hq; exact hq.2
      have h2 := hsub _ h1
      unfold inS at ht
      rw [h2] at ht
      simp [b0] at ht
  -- the channels of the new plan
  have hZ : ∀ c, c ∈ cs.filter (fun c => c.2.2 == 0 && (inS s c.1 && inS s c.2.1)) ↔ c ∈ cs ∧ c.2.2 = 0 ∧ inS s c.1 = true ∧ inS s c.2.1 = true := fun c => by rw [List.mem_filter]; simp
  generalize cs.filter (fun c => c.2.2 == 0 && (inS s c.1 && inS s c.2.1)) = Z at hZ
  have hA : ∀ c ∈ c0 :: (B ++ Z), c ∈ cs := fun c hm => by
    rcases List.mem_cons.1 hm with rfl | hm
    · exact (hLc _ hc0).2
    · rcases List.mem_append.1 hm with hm | hm
      · exact (hLc c ((hB c).1 hm).1).2
      · exact ((hZ c).1 hm).1
  have hcA : ∀ c ∈ c0 :: (B ++ Z), ChOk n c := fun c hm => hc.ok c (hA c hm)
  have hwA : wetS n (c0 :: (B ++ Z)) = allS n := by
    apply Classical.byContradiction
    intro hne
    obtain ⟨g, hg, hno⟩ := (trap_iff hc.n6 hcA).2 hne
    obtain ⟨g0, g1⟩ := mem_groups.1 hg
    have hv : inS g c0.1 = false := trap_stuck g1 hno (Wet.step c0 (by simp) (htw.mono fun c hm => by simp [hm]))
    by_cases hz : g &&& s = 0
    · obtain ⟨c, hm, hcl⟩ := hpl g hg
      have h1 : inS g c.1 = true := by unfold leavesS at hcl; rw [Bool.and_eq_true] at hcl; exact hcl.1
      have h2 := inS_and g s c.1
      rw [hz, inS_zero, h1, Bool.true_and] at h2
      have := hno c (by simp [(hB c).2 ⟨hm, h2.symm⟩])
      rw [hcl] at this
      cases this
    · have htg : g &&& s ∈ groupsS n 0 := mem_groups.2 ⟨hz, Nat.lt_of_le_of_lt Nat.and_le_left g1⟩
      have htn : g &&& s ≠ s := fun e => by
        have := inS_and g s c0.1
        rw [e, hfs, hv] at this
        cases this
      have hsp2 := hmin _ htg htn (by rw [Nat.and_assoc, Nat.and_self])
      obtain ⟨c, hm, hcs⟩ := List.any_eq_true.1 hsp2
      unfold spentC leavesS at hcs
      simp only [Bool.and_eq_true, beq_iff_eq, Bool.not_eq_true'] at hcs
      obtain ⟨hc00, hcf, hct2⟩ := hcs
      rw [inS_and, Bool.and_eq_true] at hcf
      have hin : inS s c.2.1 = true := by
        cases hq : inS s c.2.1 with
        | true => rfl
        | false =>
          have : cs.any (spentC s) = true := List.any_eq_true.2 ⟨c, hm, by unfold spentC leavesS; rw [hc00, hcf.2, hq]; rfl⟩
          rw [hsp] at this
          cases this
      rw [inS_and, hin, Bool.and_true] at hct2
      have := hno c (by simp [(hZ c).2 ⟨hm, hc00, hcf.2, hin⟩])
      unfold leavesS at this
      rw [hcf.1, hct2] at this
      cases this
  obtain ⟨l', hl', hin⟩ := planA_in hc.n6 hc.ok hA hwA
  refine ⟨l', hl', ?_⟩
  have hpos : ∀ c ∈ cs, 0 ≤ price c := fun c hm => (hc.ok c hm).2.2.2.1
  have hpos2 : ∀ c ∈ cs, 0 ≤ price (tk s y c) := fun c hm => (hct.ok _ (List.mem_map.2 ⟨c, hm, rfl⟩)).2.2.2.1
  have q1 := sumC_le price (chosenS cs l') (c0 :: B) (ext_apart hc.ok l' 0 0 hl'.1).2 (fun c hm => hpos c (hA c (by rcases List.mem_cons.1 hm with rfl | hm; exact List.mem_cons_self; exact List.mem_cons_of_mem _ (List.mem_append_left _ hm)))) fun c hm => by
    rcases List.mem_cons.1 (hin c hm) with rfl | h
    · exact .inl (by simp)
    · rcases List.mem_append.1 h with h | h
      · exact .inl (by simp [h])
      · exact .inr ((hZ c).1 h).2.1
  have hn0 : (c0 :: B).Nodup := List.nodup_cons.2 ⟨fun hm => (by have h9 := ((hB c0).1 hm).2; rw [hfs] at h9; cases h9), hBn⟩
  have q2 := sumC_le (fun c => price (tk s y c)) (c0 :: B) L hn0 (fun c hm => hpos2 c (hLc c hm).2) fun c hm => by
    rcases List.mem_cons.1 hm with rfl | hm
    · exact .inl hc0
    · exact .inl ((hB c).1 hm).1
  rw [sumC_cons] at q1 q2
  have q3 : sumC (fun c => price (tk s y c)) B = sumC price B := sumC_congr B fun c hm => by
    show price (tk s y c) = price c
    unfold tk leavesS
    rw [((hB c).1 hm).2]
    rfl
  have q4 : price (tk s y c0) = price c0 - y := by
    unfold tk leavesS
    rw [hfs, hts]
    rfl
  rw [costS_eq]
  have q2' : price (tk s y c0) + sumC (fun c => price (tk s y c)) B ≤ sumC (fun c => price (tk s y c)) L := q2
  omega
theorem zero_plan {n : Nat} {cs : List Ch} (hc : Chs n cs) (hp : payerS n cs = none) : ∃ l, Plan n cs l ∧ costS cs l ≤ 0 := by
  have hz := payer_none hp
  have hA : ∀ c, c ∈ cs.filter (fun c => c.2.2 == 0) ↔ c ∈ cs ∧ c.2.2 = 0 := fun c => by rw [List.mem_filter]; simp
  generalize cs.filter (fun c => c.2.2 == 0) = A at hA
  have hcA : ∀ c ∈ A, ChOk n c := fun c hm => hc.ok c ((hA c).1 hm).1
  have hw : wetS n A = allS n := by
    apply Classical.byContradiction
    intro hne
    obtain ⟨g, hg, hno⟩ := (trap_iff hc.n6 hcA).2 hne
    obtain ⟨c, hm, h⟩ := List.any_eq_true.1 (hz g hg)
    unfold spentC at h
    rw [Bool.and_eq_true, beq_iff_eq] at h
    have := hno c ((hA c).2 ⟨hm, h.1⟩)
    rw [h.2] at this
    cases this
  obtain ⟨l, hl, hin⟩ := planA_in hc.n6 hc.ok (fun c hm => ((hA c).1 hm).1) hw
  refine ⟨l, hl, ?_⟩
  rw [costS_eq]
  have := sumC_le price (chosenS cs l) [] (ext_apart hc.ok l 0 0 hl.1).2 (fun c h => by cases h) fun c hm => .inr ((hA c).1 (hin c hm)).2
  simpa [sumC] using this
theorem dues_plan {n : Nat} : ∀ (f : Nat) {cs : List Ch}, Chs n cs → wetS n cs = allS n → cs.length + 1 ≤ f + zeros cs →
    (∃ l, Plan n cs l ∧ costS cs l ≤ sumP (duesF n f cs)) ∧ (∀ d ∈ duesF n f cs, setS d.1 ∈ groupsS n 0 ∧ 0 ≤ d.2) ∧ ∀ c ∈ cs, chargeOne (duesF n f cs) c ≤ c.2.2
  | 0, cs, _, _, h => by have := zeros_le cs; omega
  | f + 1, cs, hc, hw, h => by
    cases hp : payerS n cs with
    | none =>
      rw [duesF_done hp]
      obtain ⟨l, hl, hk⟩ := zero_plan hc hp
      refine ⟨⟨l, hl, by simpa [sumP] using hk⟩, by simp, fun c hm => ?_⟩
      have := (hc.ok c hm).2.2.2.1
      simpa [chargeOne] using this
    | some s =>
      obtain ⟨hsg, hsp, _⟩ := payer_some hp
      obtain ⟨s0, s1⟩ := mem_groups.1 hsg
      have hex := leaves_some hc hw hsg
      obtain ⟨⟨c1, hm1, hl1, hk1⟩, hle⟩ := least_of (cs := cs) (s := s) (fun c h => ⟨(hc.ok c h).2.2.2.1, (hc.ok c h).2.2.2.2⟩) hex
      have hk0 : 0 < leastLeft cs s := by
        have h0 := (hc.ok c1 hm1).2.2.2.1
        have : c1.2.2 ≠ 0 := by
          intro e
          rw [List.any_eq_false] at hsp
          have := hsp c1 hm1
          unfold spentC at this
          rw [hl1, e] at this
          simp at this
        omega
      have hz := least_pays hk0 hsp ⟨c1, hm1, hl1, hk1⟩
      have hlen : (takeLeft cs s (leastLeft cs s)).length = cs.length := by unfold takeLeft; simp
      have hct := take_ok hc hex
      have hwt : wetS n (takeLeft cs s (leastLeft cs s)) = allS n := by rw [wet_take]; exact hw
      obtain ⟨⟨l, hl, hk⟩, i2, i3⟩ := dues_plan f hct hwt (by omega)
      have hss : setS (listS s) = s := setS_listS (pow_64 hc.n6 s1)
      rw [duesF_step hp]
      refine ⟨?_, ?_, ?_⟩
      · obtain ⟨l', hl', hk'⟩ := step_plan hc hw hp (plan_take.1 hl)
        refine ⟨l', hl', ?_⟩
        rw [sumP_cons]
        show _ ≤ leastLeft cs s + _
        omega
      · intro d hd
        rcases List.mem_cons.1 hd with rfl | hd
        · exact ⟨by show setS (listS s) ∈ _; rw [hss]; exact hsg, by show 0 ≤ leastLeft cs s; omega⟩
        · exact i2 d hd
      · intro c hm
        rw [chargeOne_cons]
        show (if leavesS (setS (listS s)) c then leastLeft cs s else 0) + _ ≤ _
        rw [hss]
        have h1 := i3 (tk s (leastLeft cs s) c) (List.mem_map.2 ⟨c, hm, rfl⟩)
        rw [chargeOne_ends (tk_ends s (leastLeft cs s) c)] at h1
        unfold tk at h1
        split at h1
        · rename_i hq; rw [if_pos hq]; show _ ≤ c.2.2; have : chargeOne (duesF n f (takeLeft cs s (leastLeft cs s))) c ≤ c.2.2 - leastLeft cs s := h1; omega
        · rename_i hq; rw [if_neg hq]; omega
/-- P2.8 -/
theorem fulkerson {n : Nat} {cs : List Ch} (hc : Chs n cs) (hw : wetS n cs = allS n) :
    sumP (duesF n (cs.length + 1) cs) = leastS cs (plansS n cs) ∧ (∀ c ∈ cs, chargeOne (duesF n (cs.length + 1) cs) c ≤ c.2.2) ∧
      ∀ p ∈ plansS n cs, costS cs p = leastS cs (plansS n cs) → ∀ c ∈ chosenS cs p, chargeOne (duesF n (cs.length + 1) cs) c = c.2.2 := by
  obtain ⟨⟨l, hl, hk⟩, h2, h3⟩ := dues_plan (cs.length + 1) hc hw (by omega)
  generalize duesF n (cs.length + 1) cs = ds at hk h2 h3
  have hlp : l ∈ plansS n cs := (mem_plansS hc.n1 hc.ok l).2 hl
  have hne : plansS n cs ≠ [] := fun e => by rw [e] at hlp; cases hlp
  obtain ⟨p, hp, e1, e2⟩ := least_spec hc.ok hne
  have hlow : ∀ q ∈ plansS n cs, sumP ds ≤ sumC (chargeOne ds) (chosenS cs q) ∧ sumC (chargeOne ds) (chosenS cs q) ≤ costS cs q ∧ (sumC (chargeOne ds) (chosenS cs q) = costS cs q → ∀ c ∈ chosenS cs q, chargeOne ds c = c.2.2) := fun q hq => by
    have hq' := (mem_plansS hc.n1 hc.ok q).1 hq
    have h4 := sumC_mono (f := chargeOne ds) (g := price) (chosenS cs q) fun c hm => h3 c ((ext_apart hc.ok q 0 0 hq'.1).1 c hm).2
    rw [costS_eq]
    exact ⟨charge_plan hc.n6 hc.ok hq' ds h2, h4.1, h4.2⟩
  have h4 := hlow p hp
  have h5 := e2 l hlp
  refine ⟨by omega, h3, fun q hq hk => ?_⟩
  have h6 := hlow q hq
  exact h6.2.2 (by omega)
end Go.Proofs.YtadamjleglckpaaGreat.drn

/- The best of all sets by a number and then by their lists, as a scan over numbers finds it; the smallest payer, the trap and the narrow group so. -/
namespace Go.Proofs.YtadamjleglckpaaGreat.drn
set_option linter.unusedSimpArgs false
set_option linter.unusedVariables false
theorem lex_tri : ∀ a b : List Int, a = b ∨ List.Lex (· < ·) a b ∨ List.Lex (· < ·) b a
  | [], [] => .inl rfl
  | [], _ :: _ => .inr (.inl .nil)
  | _ :: _, [] => .inr (.inr .nil)
  | x :: a, y :: b => by
    rcases Int.lt_trichotomy x y with h | rfl | h
    · exact .inr (.inl (.rel h))
    · rcases lex_tri a b with rfl | h | h
      · exact .inl rfl
      · exact .inr (.inl (.cons h))
      · exact .inr (.inr (.cons h))
    · exact .inr (.inr (.rel h))
theorem listS_inj {s t : Nat} (hs : s < 64) (ht : t < 64) (h : listS s = listS t) : s = t := by
  rw [← setS_listS hs, ← setS_listS ht, h]
/-- one set before another one -/
def Bet (f : Nat → Nat) (s t : Nat) : Prop := f s < f t ∨ (f s = f t ∧ List.Lex (· < ·) (listS s) (listS t))
theorem Bet.tri {f : Nat → Nat} {s t : Nat} (hs : s < 64) (ht : t < 64) (hne : s ≠ t) (h : ¬ Bet f s t) : Bet f t s := by
  unfold Bet at *
  rcases Nat.lt_trichotomy (f s) (f t) with h1 | h1 | h1
  · exact absurd (.inl h1) h
  · rcases lex_tri (listS s) (listS t) with h2 | h2 | h2
    · exact absurd (listS_inj hs ht h2) hne
    · exact absurd (.inr ⟨h1, h2⟩) h
    · exact .inr ⟨h1.symm, h2⟩
  · exact .inl h1
theorem Bet.trans {f : Nat → Nat} {s t u : Nat} (h1 : Bet f s t) (h2 : Bet f t u) : Bet f s u := by
  unfold Bet at *
  rcases h1 with h1 | ⟨h1, l1⟩ <;> rcases h2 with h2 | ⟨h2, l2⟩
  · exact .inl (by omega)
  · exact .inl (by omega)
  · exact .inl (by omega)
  · exact .inr ⟨by omega, lexI_tr _ _ _ l1 l2⟩
theorem Bet.irr {f : Nat → Nat} {s : Nat} (h : Bet f s s) : False := by
  rcases h with h | ⟨_, h⟩
  · omega
  · exact lexI_irr _ h
/-- the best of the sets below k, 0 if there is none -/
def IsBest (C : Nat → Bool) (f : Nat → Nat) (k b : Nat) : Prop :=
  (b = 0 ∧ ∀ s, 1 ≤ s → s < k → C s = false) ∨ (1 ≤ b ∧ b < k ∧ C b = true ∧ ∀ s, 1 ≤ s → s < k → C s = true → s ≠ b → Bet f b s)
theorem IsBest.zero (C : Nat → Bool) (f : Nat → Nat) : IsBest C f 1 0 := .inl ⟨rfl, fun s h1 h2 => by omega⟩
theorem IsBest.no {C : Nat → Bool} {f : Nat → Nat} {k b : Nat} (h : IsBest C f k b) (hc : C k = false) : IsBest C f (k + 1) b := by
  rcases h with ⟨h1, h2⟩ | ⟨h1, h2, h3, h4⟩
  · refine .inl ⟨h1, fun s a c => ?_⟩
    by_cases e : s = k
    · rw [e]; exact hc
    · exact h2 s a (by omega)
  · refine .inr ⟨h1, by omega, h3, fun s a c d e => ?_⟩
    by_cases e2 : s = k
    · rw [e2, hc] at d; cases d
    · exact h4 s a (by omega) d e
theorem IsBest.new {C : Nat → Bool} {f : Nat → Nat} {k b : Nat} (h : IsBest C f k b) (hk : 1 ≤ k) (hc : C k = true) (hb : b = 0 ∨ Bet f k b) : IsBest C f (k + 1) k := by
  refine .inr ⟨hk, by omega, hc, fun s a c d e => ?_⟩
  rcases h with ⟨h1, h2⟩ | ⟨h1, h2, h3, h4⟩
  · have := h2 s a (by omega); rw [this] at d; cases d
  · have hbk : Bet f k b := hb.resolve_left (by omega)
    by_cases e2 : s = b
    · rw [e2]; exact hbk
    · exact hbk.trans (h4 s a (by omega) d e2)
theorem IsBest.old {C : Nat → Bool} {f : Nat → Nat} {k b : Nat} (h : IsBest C f k b) (hk : k < 64) (h0 : b ≠ 0) (hb : ¬ Bet f k b) : IsBest C f (k + 1) b := by
  rcases h with ⟨h1, h2⟩ | ⟨h1, h2, h3, h4⟩
  · exact absurd h1 h0
  · refine .inr ⟨h1, by omega, h3, fun s a c d e => ?_⟩
    by_cases e2 : s = k
    · rw [e2]; exact Bet.tri hk (by omega) (by omega) hb
    · exact h4 s a (by omega) d e
theorem IsBest.first {C : Nat → Bool} {f : Nat → Nat} {n b : Nat} (hn : n ≤ 6) (h : IsBest C f (2 ^ n) b) : firstMin f ((groupsS n 0).filter C) = if b = 0 then none else some b := by
  have h64 : ∀ s, s < 2 ^ n → s < 64 := fun s hs => pow_64 hn hs
  rcases h with ⟨h1, h2⟩ | ⟨h1, h2, h3, h4⟩
  · rw [if_pos h1, firstMin_none, List.filter_eq_nil_iff]
    intro s hs
    obtain ⟨s0, s1⟩ := mem_groups.1 hs
    rw [h2 s (by omega) s1]
    decide
  · rw [if_neg (by omega)]
    cases hm : firstMin f ((groupsS n 0).filter C) with
    | none =>
      rw [firstMin_none, List.filter_eq_nil_iff] at hm
      exact absurd h3 (hm b (mem_groups.2 ⟨by omega, h2⟩))
    | some x =>
      obtain ⟨p, q, e, e1, e2⟩ := (firstMin_some _ _ _).1 hm
      have hx : x ∈ (groupsS n 0).filter C := by rw [e]; simp
      obtain ⟨x1, x2⟩ := List.mem_filter.1 hx
      obtain ⟨x3, x4⟩ := mem_groups.1 x1
      congr 1
      apply Classical.byContradiction
      intro hne
      have hbx := h4 x (by omega) x4 x2 hne
      have hb : b ∈ (groupsS n 0).filter C := List.mem_filter.2 ⟨mem_groups.2 ⟨by omega, h2⟩, h3⟩
      rw [e, List.mem_append, List.mem_cons] at hb
      rcases hb with hb | hb | hb
      · have h5 := e1 b hb
        unfold Bet at hbx
        have hs := (groupsS_sorted n 0 (by omega)).sublist (List.filter_sublist (p := C))
        rcases hbx with h6 | ⟨h6, h7⟩ <;> omega
      · exact hne hb.symm
      · have h5 := e2 b hb
        have hs := (groupsS_sorted n 0 (by omega)).sublist (List.filter_sublist (p := C))
        rw [e, List.pairwise_append] at hs
        have h8 := (List.pairwise_cons.1 hs.2.1).1 b hb
        rcases hbx with h6 | ⟨h6, h7⟩
        · omega
        · exact lexI_irr _ (lexI_tr _ _ _ h7 h8)
theorem firstMin_const {α : Type} : ∀ l : List α, firstMin (fun _ => 0) l = l.head?
  | [] => rfl
  | x :: r => by
    rw [firstMin, List.head?_cons]
    cases firstMin (fun _ => 0) r with
    | none => rfl
    | some y => simp
/-- the smallest payers, and the first of them -/
def payC (n : Nat) (cs : List Ch) (s : Nat) : Bool := !cs.any (spentC s) && !(payersS n cs).any (smaller s)
theorem payer_best {n b : Nat} {cs : List Ch} (hn : n ≤ 6) (h : IsBest (payC n cs) (fun _ => 0) (2 ^ n) b) : payerS n cs = if b = 0 then none else some b := by
  rw [← h.first hn, firstMin_const, payerS_eq]
  unfold payC
  generalize hps : payersS n cs = ps
  have hps2 := hps
  rw [payersS_eq] at hps2
  rw [← hps2]
  rw [hps2]
  generalize groupsS n 0 = gs at hps2 ⊢
  have key : ∀ (C D : Nat → Bool) (l : List Nat), (l.filter C).find? D = (l.filter fun s => C s && D s).head? := by
    intro C D l
    induction l with
    | nil => rfl
    | cons x r ih =>
      rw [List.filter_cons, List.filter_cons]
      cases hC : C x with
      | false => simp [ih]
      | true =>
        cases hD : D x with
        | true => simp [hD]
        | false => simp [hD, ih]
  have := key (fun s => !cs.any (spentC s)) (fun s => !ps.any (smaller s)) gs
  rw [hps2] at this
  exact this
end Go.Proofs.YtadamjleglckpaaGreat.drn

/- DrainTrapped plainly: the union of all traps is what is stuck; the first smallest trap as a scan finds it; a group that ends with the mouth. -/
namespace Go.Proofs.YtadamjleglckpaaGreat.drn
set_option linter.unusedSimpArgs false
set_option linter.unusedVariables false
/-- the union of the sets below k with a property -/
def uniS (C : Nat → Bool) : Nat → Nat
  | 0 => 0
  | k + 1 => if 1 ≤ k ∧ C k = true then uniS C k ||| k else uniS C k
theorem uniS_bit (C : Nat → Bool) (j : Nat) : ∀ k, (uniS C k).testBit j = true ↔ ∃ s, 1 ≤ s ∧ s < k ∧ C s = true ∧ s.testBit j = true
  | 0 => by simp [uniS]
  | k + 1 => by
    rw [uniS]
    split
    · rename_i h
      rw [Nat.testBit_or, Bool.or_eq_true, uniS_bit C j k]
      constructor
      · rintro (⟨s, a, b, c, d⟩ | d)
        · exact ⟨s, a, by omega, c, d⟩
        · exact ⟨k, h.1, by omega, h.2, d⟩
      · rintro ⟨s, a, b, c, d⟩
        by_cases e : s = k
        · subst e; exact .inr d
        · exact .inl ⟨s, a, by omega, c, d⟩
    · rename_i h
      rw [uniS_bit C j k]
      constructor
      · rintro ⟨s, a, b, c, d⟩
        exact ⟨s, a, by omega, c, d⟩
      · rintro ⟨s, a, b, c, d⟩
        by_cases e : s = k
        · subst e; exact absurd ⟨a, c⟩ h
        · exact ⟨s, a, by omega, c, d⟩
/-- a set out of which no channel leads -/
def trapC (cs : List Ch) (s : Nat) : Bool := (leavingS cs s).length == 0
theorem trapC_iff {cs : List Ch} {s : Nat} : trapC cs s = true ↔ NoWay cs s := by
  unfold trapC
  rw [beq_iff_eq, leavingS_nil]
theorem uni_lt {C : Nat → Bool} {n : Nat} (k : Nat) (hk : k ≤ 2 ^ n) : uniS C k < 2 ^ n := by
  refine Nat.lt_pow_two_of_testBit _ fun i hi => ?_
  cases h : (uniS C k).testBit i with
  | false => rfl
  | true =>
    obtain ⟨s, a, b, c, d⟩ := (uniS_bit C i k).1 h
    rw [Nat.testBit_lt_two_pow (Nat.lt_of_lt_of_le b (Nat.le_trans hk (Nat.pow_le_pow_right (by decide) hi)))] at d
    cases d
theorem uni_dry {n : Nat} {cs : List Ch} (hn : n ≤ 6) (hc : ∀ c ∈ cs, ChOk n c) : uniS (trapC cs) (2 ^ n) = dryS n cs := by
  apply Nat.eq_of_testBit_eq
  intro j
  apply Bool.eq_iff_iff.2
  rw [uniS_bit, dryS_bit hc]
  constructor
  · rintro ⟨s, a, b, c, d⟩
    have hjn : j < n := by
      apply Classical.byContradiction
      intro h
      rw [Nat.testBit_lt_two_pow (Nat.lt_of_lt_of_le b (Nat.pow_le_pow_right (by decide) (by omega)))] at d
      cases d
    rw [Bool.and_eq_true]
    refine ⟨decide_eq_true hjn, ?_⟩
    cases hq : (wetS n cs).testBit j with
    | false => rfl
    | true =>
      have hW : Wet n cs j := (wetS_iff hn hc hjn).1 (by simp [inS, hq])
      have := trap_stuck b (trapC_iff.1 c) hW
      unfold inS at this
      rw [Int.toNat_natCast, d] at this
      simp at this
  · intro h
    rw [Bool.and_eq_true] at h
    obtain ⟨h1, h2⟩ := h
    have hjn : j < n := of_decide_eq_true h1
    have hb : (dryS n cs).testBit j = true := by rw [dryS_bit hc, h1, h2]; rfl
    refine ⟨dryS n cs, ?_, ?_, trapC_iff.2 (dry_trap hn hc), hb⟩
    · apply Nat.pos_of_ne_zero
      intro e
      rw [e] at hb
      simp at hb
    · have := Nat.two_pow_pos n
      unfold dryS allS
      omega
theorem stuck_is {n : Nat} {cs : List Ch} (h0 : errD n cs = 0) (hn : n ≤ 6) (hc : ∀ c ∈ cs, ChOk n c) : stuckOf n cs = (listS (uniS (trapC cs) (2 ^ n)), 0) := by
  unfold stuckOf
  rw [if_neg (fun h => h h0), uni_dry hn hc]
  rfl
theorem trap_is {n b : Nat} {cs : List Ch} (h0 : errD n cs = 0) (hn : n ≤ 6) (h : IsBest (trapC cs) sizeS (2 ^ n) b) : trapOf n cs = if b = 0 then ([], 13) else (listS b, 0) := by
  unfold trapOf
  rw [if_neg (fun h => h h0)]
  have := h.first hn
  unfold trapC at this
  rw [this]
  by_cases hb : b = 0
  · rw [if_pos hb, if_pos hb]
  · rw [if_neg hb, if_neg hb]
theorem trap_plans {n b : Nat} {cs : List Ch} (hc : Chs n cs) (h : IsBest (trapC cs) sizeS (2 ^ n) b) : plansS n cs = [] ↔ b ≠ 0 := by
  have h1 : plansS n cs = [] ↔ ¬ ∃ l, Plan n cs l := by
    constructor
    · rintro h ⟨l, hl⟩
      have := (mem_plansS hc.n1 hc.ok l).2 hl
      rw [h] at this
      cases this
    · intro h
      cases hq : plansS n cs with
      | nil => rfl
      | cons l r => exact absurd ⟨l, (mem_plansS hc.n1 hc.ok l).1 (by rw [hq]; simp)⟩ h
  rw [h1, plan_iff hc.n6 hc.ok]
  have h2 := trap_iff hc.n6 hc.ok
  have h3 : (∃ s ∈ groupsS n 0, NoWay cs s) ↔ b ≠ 0 := by
    rcases h with ⟨a, c⟩ | ⟨a, c, d, _⟩
    · constructor
      · rintro ⟨s, hs, hno⟩
        obtain ⟨s0, s1⟩ := mem_groups.1 hs
        have := c s (by omega) s1
        rw [trapC_iff.2 hno] at this
        cases this
      · intro h; exact absurd a h
    · exact ⟨fun _ => by omega, fun _ => ⟨b, mem_groups.2 ⟨by omega, c⟩, trapC_iff.1 d⟩⟩
  rw [← h3, h2]
theorem groupErr_end {n : Nat} : ∀ (l : List Int) (b : Option Int), (∀ x ∈ l, 0 ≤ x ∧ x < n) → l.Pairwise (· < ·) → (∀ x, b = some x → ∀ y ∈ l, x < y) → groupErr n b (l ++ [(n : Int)]) = 2
  | [], b, _, _, _ => by
    show groupErr n b [(n : Int)] = 2
    unfold groupErr
    rw [if_pos]
    simp [isGal]
  | g :: r, b, h1, h2, h3 => by
    rw [List.pairwise_cons] at h2
    rw [List.cons_append]
    unfold groupErr
    have hg := h1 g (by simp)
    rw [if_neg (by rw [(isGal_iff _ _).2 hg]; simp), if_neg ?_]
    · exact groupErr_end r (some g) (fun x hx => h1 x (by simp [hx])) h2.2 fun x hx y hy => by injection hx with hx; subst hx; exact h2.1 y hy
    · cases b with
      | none => simp [notUp]
      | some x => have := h3 x rfl g (by simp); simp [notUp]; omega
theorem leaves_listS {n s : Nat} {cs : List Ch} (h0 : errD n cs = 0) (hn : n ≤ 6) (hs : s < 2 ^ n) : leavesOf n cs (listS s) = if s = 0 then ([], 4) else (leavingS cs s, 0) := by
  unfold leavesOf
  rw [if_neg (fun h => h h0)]
  by_cases hz : s = 0
  · subst hz
    rw [if_pos rfl, listS_zero]
    rfl
  · rw [if_neg hz, if_neg (fun h => h (gr_listS hn hz hs)), setS_listS (pow_64 hn hs)]
theorem leaves_end {n s : Nat} {cs : List Ch} (h0 : errD n cs = 0) (hs : s < 2 ^ n) : leavesOf n cs (listS s ++ [(n : Int)]) = ([], 2) := by
  have h2 : grErr n (listS s ++ [(n : Int)]) = 2 := by
    unfold grErr
    rw [if_neg (by simp)]
    exact groupErr_end _ none (listS_in hs) (listS_up s) (by simp)
  unfold leavesOf
  rw [if_neg (fun h => h h0), if_pos (by rw [h2]; decide), h2]
end Go.Proofs.YtadamjleglckpaaGreat.drn

/- Kit for the bodies of drain's statements: loads of an Adit, powers of two, sets; one scan's step. -/
namespace Go.Proofs.YtadamjleglckpaaGreat.drn
open Go.RowKit
set_option linter.unusedSimpArgs false
set_option linter.unusedVariables false
theorem sizeAdit : (Tryz.prog.info? 44).map (·.size) = some 22 := by kernel_rfl
theorem wpList_loadA {ops : Array Oper} {rest : List Oper} {op : Oper} {a : Act} {w : World} {Q : Exit → Act → World → Prop} (xs : List Int) (hxl : xs.length = 22) (B : Nat) (hb : BoxAt w B xs) (x : Operand) (hgd : op.guard = none) (ho : op.op = .load 44 x)
    (hx : a.eval x = .pointer (some ⟨B, 0, none⟩)) (h : wpList Tryz.prog ops Q rest (a.put op.dst (.agg (flat8 xs).toArray)) w) : wpList Tryz.prog ops Q (op :: rest) a w :=
  wpList_load_mid hgd 44 x ho B 0 hx (flat8 xs) _ hb.2 Tryz.underlying44 rfl (by rw [flat8_length, hxl]; exact sizeAdit) h
theorem two6 (n : Nat) (h : n ≤ 6) : ∃ P : Nat, Hid (2 ^ n = P) ∧ wrap64 (2 ^ n) = (P : Int) ∧ 0 < P ∧ P ≤ 64 ∧ ¬ (P : Int) = 0 := by
  have key : ∀ k : Nat, k ≤ 6 → wrap64 (2 ^ k) = ((2 ^ k : Nat) : Int) ∧ 0 < 2 ^ k ∧ 2 ^ k ≤ 64 := by decide +kernel
  obtain ⟨h1, h2, h3⟩ := key n h
  refine ⟨2 ^ n, Lib.hid rfl, h1, h2, h3, ?_⟩
  generalize 2 ^ n = P at h2
  omega
theorem listS_len (s : Nat) : (listS s).length ≤ 6 := by
  unfold listS
  rw [List.length_map]
  exact Nat.le_trans (List.length_filter_le _ _) (by rw [List.length_range]; exact Nat.le_refl _)
theorem uniS_step (C : Nat → Bool) {k : Nat} (h : 1 ≤ k) : uniS C (k + 1) = if C k = true then uniS C k ||| k else uniS C k := by
  rw [uniS]
  by_cases hC : C k = true
  · rw [if_pos ⟨h, hC⟩, if_pos hC]
  · rw [if_neg (fun x => hC x.2), if_neg hC]
end Go.Proofs.YtadamjleglckpaaGreat.drn

/- DrainMore, plainly: what the answers for a hill, the hill without its last channel, and the hill with a dearer channel have to do with each other. -/
namespace Go.Proofs.YtadamjleglckpaaGreat.drn
theorem errD_ch {n : Nat} {cs : List Ch} (h : errD n cs = 0) : 1 ≤ n ∧ n ≤ 6 ∧ cs.length ≤ 14 ∧ ∀ c ∈ cs, ChOk n c := by
  obtain ⟨a, b, c, d, _⟩ := errD_ok h
  exact ⟨by omega, by omega, c, d⟩
theorem count_of {n : Nat} {cs : List Ch} (h : errD n cs = 0) : countOf n cs = (((plansS n cs).length : Int), 0) := by unfold countOf; rw [if_neg (by simpa using h)]
theorem most_of {n : Nat} {cs : List Ch} (h : errD n cs = 0) : mostOf n cs = ((mostS (plansS n cs) : Int), 0) := by unfold mostOf; rw [if_neg (by simpa using h)]
theorem least_of0 {n : Nat} {cs : List Ch} (h : errD n cs = 0) (hp : plansS n cs = []) : leastOf n cs = (0, 12) := by unfold leastOf; rw [if_neg (by simpa using h), if_pos (by rw [hp]; rfl)]
theorem least_of1 {n : Nat} {cs : List Ch} (h : errD n cs = 0) (hp : plansS n cs ≠ []) : leastOf n cs = (leastS cs (plansS n cs), 0) := by
  unfold leastOf; rw [if_neg (by simpa using h), if_neg (by simpa using hp)]
theorem plans_nil {n : Nat} : plansS n [] = [] := rfl
theorem count_nil {n : Nat} (h : errD n [] = 0) : countOf n [] = (0, 0) := by rw [count_of h, plans_nil]; rfl
structure MoreF (n : Nat) (cs : List Ch) (p : Nat) (B C D I L eL M eM : Int) : Prop where
  bc : B ≤ C
  mb : 0 ≤ M ∧ M ≤ 1000
  di : D ≤ I
  el : eL = 0 → eM = 0 ∧ M ≤ L
  em : (eM = 0 ∧ 0 < C) ∨ (eM ≠ 0 ∧ ¬ 0 < C)
  dear : eM = 0 → (cs.getD p (0, 0, 0)).2.2 ≠ 20 → ∃ Q, leastOf n (dear cs p) = (Q, 0) ∧ M ≤ Q ∧ Q ≤ M + 1
theorem leastS_bd {n : Nat} {cs : List Ch} (h1 : 1 ≤ n) (h6 : n ≤ 6) (hc : ∀ c ∈ cs, ChOk n c) (h : plansS n cs ≠ []) : 0 ≤ leastS cs (plansS n cs) ∧ leastS cs (plansS n cs) ≤ 1000 := by
  obtain ⟨p, hp, e, _⟩ := least_spec (n := n) hc h
  have hP := (mem_plansS h1 hc p).1 hp
  have hl := (Ext.full h6 hc hP.1).1
  have := costS_bd hc p
  rw [e]; omega
theorem more_facts {n : Nat} {cs : List Ch} (h : errD n cs = 0) {k : Nat} (hk : cs.length = k + 1) {p : Nat} (hp : p < cs.length) :
    ∃ B C D I L eL M eM : Int, countOf n (cs.take k) = (B, 0) ∧ countOf n cs = (C, 0) ∧ mostOf n (cs.take k) = (D, 0) ∧ mostOf n cs = (I, 0) ∧ leastOf n (cs.take k) = (L, eL) ∧ leastOf n cs = (M, eM) ∧ MoreF n cs p B C D I L eL M eM := by
  have h1 : errD n (cs.take k) = 0 := errD_sub h (List.take_sublist k cs)
  obtain ⟨n1, n6, l14, hc⟩ := errD_ch h
  have e : cs = cs.take k ++ [cs[k]'(by omega)] := by
    conv => lhs; rw [← List.take_append_drop k cs]
    rw [List.drop_eq_getElem_cons (by omega), List.drop_of_length_le (by omega)]
  have hc2 : ∀ d ∈ cs.take k ++ [cs[k]'(by omega)], ChOk n d := by rw [← e]; exact hc
  have k1 := count_more n1 hc2
  have k2 := most_more n1 hc2
  rw [← e] at k1 k2
  rw [count_of h, count_of h1, most_of h, most_of h1]
  by_cases hM : plansS n cs = []
  · have hL : plansS n (cs.take k) = [] := by
      rw [hM] at k1
      exact List.length_eq_zero_iff.1 (by simpa using k1)
    rw [least_of0 h hM, least_of0 h1 hL]
    exact ⟨_, _, _, _, _, _, _, _, rfl, rfl, rfl, rfl, rfl, rfl, by omega, by omega, by omega, by simp, .inr ⟨by simp, by rw [hM]; simp⟩, by simp⟩
  · have hpos : 0 < (plansS n cs).length := List.length_pos_iff.2 hM
    have hd : (cs.getD p (0, 0, 0)).2.2 ≠ 20 → ∃ Q, leastOf n (dear cs p) = (Q, 0) ∧ leastS cs (plansS n cs) ≤ Q ∧ Q ≤ leastS cs (plansS n cs) + 1 := by
      intro h20
      have hcp : ChOk n (cs.getD p (0, 0, 0)) := hc _ (getD_inl cs p _ hp)
      have hlt : (cs.getD p (0, 0, 0)).2.2 < 20 := by have := hcp.2.2.2.2; omega
      have hdok := dear_ok hc hp hlt
      obtain ⟨_, _, _, _, hpw⟩ := errD_ok h
      have herr : errD n (dear cs p) = 0 := by
        refine errD_of (by omega) (by omega) (by rw [dear_length]; exact l14) hdok ?_
        rw [List.pairwise_iff_getElem] at hpw ⊢
        intro i j hi hj hij
        have hi' : i < cs.length := by rw [dear_length] at hi; exact hi
        have hj' : j < cs.length := by rw [dear_length] at hj; exact hj
        have g : ∀ (x : Nat) (hx : x < (dear cs p).length) (hx' : x < cs.length), ((dear cs p)[x].1, (dear cs p)[x].2.1) = (cs[x].1, cs[x].2.1) := by
          intro x hx hx'
          have e1 := dear_ends cs p hp x
          unfold ends at e1
          rw [List.getD_eq_getElem?_getD, List.getElem?_eq_getElem hx, List.getD_eq_getElem?_getD, List.getElem?_eq_getElem hx'] at e1
          simpa using e1
        have gi := g i hi hi'
        have gj := g j hj hj'
        simp only [Prod.mk.injEq] at gi gj
        rw [gi.1, gi.2, gj.1, gj.2]
        exact hpw i j hi' hj' hij
      have hne : plansS n (dear cs p) ≠ [] := by rw [plansS_dear n1 hc hp hlt]; exact hM
      exact ⟨_, least_of1 herr hne, least_dear n1 hc hp hlt hM⟩
    rw [least_of1 h hM]
    have hmb := leastS_bd n1 n6 hc hM
    by_cases hL : plansS n (cs.take k) = []
    · rw [least_of0 h1 hL]
      exact ⟨_, _, _, _, _, _, _, _, rfl, rfl, rfl, rfl, rfl, rfl, by omega, hmb, by omega, by simp, .inl ⟨rfl, by omega⟩, fun _ => hd⟩
    · rw [least_of1 h1 hL]
      have k3 := least_more n1 hc2 hL
      rw [← e] at k3
      exact ⟨_, _, _, _, _, _, _, _, rfl, rfl, rfl, rfl, rfl, rfl, by omega, hmb, by omega, fun _ => ⟨rfl, by first | exact k3.2 | exact k3⟩, .inl ⟨rfl, by omega⟩, fun _ => hd⟩
end Go.Proofs.YtadamjleglckpaaGreat.drn

