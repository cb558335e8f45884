/- Package drain, the walks: nextPayer. -/
import Derived.Test.YtlnpibboemphnaaGreatQa6
import Derived.Laws.EntriesVeiled
import Derived.Test.YtlnpibboemphnaaGreatQa2
import Derived.Test.YtlnpibboemphnaaGreatQa3
import Derived.Test.YtlnpibboemphnaaGreatQa4
import Derived.Test.YtlnpibboemphnaaGreatQa5

namespace Go.Proofs.YtlnpibboemphnaaGreat.drn
open Go.RowKit
set_option linter.unusedSimpArgs false
set_option linter.unusedVariables false

set_option maxRecDepth 100000 in
set_option maxHeartbeats 1000000 in
theorem nextPayer_any (n : Nat) (q : Option Addr) (m c : Nat) (q3 : Option Addr) (c3 : Nat) (cs : List Ch) (w : World) (hc : Chs n cs) (hr : RowV w q3 (flatC n cs)) :
    Calls Tryz.prog 61 #[hillV n q m c, .slice q3 cs.length c3] w fun e w' => e = .returned (.tuple #[.int .u64 ((payerS n cs).getD 0 : Nat), .bool (payerS n cs).isSome]) ∧ Below w.heap.size w w' := by
  have bE : ∀ (W : World) (o : Obj), Below W.heap.size W (W.alloc o) := fun W o => (Below.refl _ _).alloc (Nat.le_refl _) _
  have hb0 : Below w.heap.size w ((w.alloc (.cells #[.int .i64 n, .slice q m c] 28)).alloc (.cells #[.slice q3 cs.length c3] 93)) := (bE _ _).on (bE _ _)
  have hin : ChsAt ((w.alloc (.cells #[.int .i64 n, .slice q m c] 28)).alloc (.cells #[.slice q3 cs.length c3] 93)) (w.heap.size + 1) n cs := ⟨q3, c3, by simp, by simp, hr.below (Nat.le_refl _) hb0⟩
  have hgo := groupsOf_any n q m c ((w.alloc (.cells #[.int .i64 n, .slice q m c] 28)).alloc (.cells #[.slice q3 cs.length c3] 93)) hc.n6
  have hgl : (groupsS n 0).length ≤ 1000 := by
    rw [groupsS_len]
    have : 2 ^ n ≤ 64 := Nat.pow_le_pow_right (by decide) hc.n6
    omega
  have hmem : ∀ s ∈ groupsS n 0, s < 2 ^ n := fun s hs => (mem_groups.1 hs).2
  have hpm : ∀ s ∈ payersS n cs, s < 64 := fun s hs => pow_64 hc.n6 (hmem s (List.mem_filter.1 hs).1)
  have hpl : (payersS n cs).length ≤ 1000 := Nat.le_trans (List.length_filter_le _ _) hgl
  unfold hillV at *
  have HB := Lib.hid hb0
  have HIN := Lib.hid hin
  have HGO := Lib.hid hgo
  have HMEM := Lib.hid hmem
  have HPM := Lib.hid hpm
  have HC := Lib.hid hc
  have HEQ := Lib.hid (payersS_eq n cs)
  have HPE := Lib.hid (payerS_eq n cs)
  clear hb0 hin hgo hmem hpm hr hc bE
  go_enter Tryz.func61, Tryz.ntmps61
  go_wp2_with (go_at_call 76; refine HGO.out.mono ?_; rintro e wG ⟨vG, rfl, hownG, hbG⟩)
  have hts : TestS ((w.alloc (.cells #[.int .i64 n, .slice q m c] 28)).alloc (.cells #[.slice q3 cs.length c3] 93)).heap.size wG 106 #[.pointer (some ⟨w.heap.size + 1, 0, none⟩)] (fun s => cs.any (spentC s)) (groupsS n 0) :=
    fun W s hs hb hB => payer1_any n s _ cs W HC.out (HMEM.out s hs) (HIN.out.below (Nat.le_refl _) (hbG.trans hb))
  have hdel := deleteS_any _ 106 _ _ ent_payer1 vG (groupsS n 0) wG hbG.size hts hownG hgl
  rw [← HEQ.out] at hdel
  obtain ⟨P, hP⟩ : ∃ P, payersS n cs = P := ⟨_, rfl⟩
  rw [hP] at hdel HPM hpl HPE
  have hacG : Below w.heap.size w wG := HB.out.on hbG
  have HDEL := Lib.hid hdel
  have hszC := HB.out.size
  clear hts hdel hownG hP HEQ hgl
  go_at_call 83
  refine HDEL.out.mono ?_
  rintro e wD ⟨vD, rfl, hownD, hbD⟩
  dsimp only
  have hacD : Below w.heap.size w wD := hacG.trans (hbD.mono hszC)
  obtain ⟨qD, cD, rfl, hrowD, _, _⟩ := rowV_of_owns hownD (by intro h; rw [List.length_eq_zero_iff] at h; rw [h]; rfl)
  clear hownD HDEL hbD hbG
  go_wp2
  go_loopw [17] (fun i wr => ∃ k : Nat, k ≤ P.length ∧ i = .int .i64 k ∧ AllNo (fun s => !P.any (smaller s)) P k ∧ Below wD.heap.size wD wr) (fun i _ => P.length - (intOf i).toNat)
  case atStart => exact ⟨0, Nat.zero_le _, rfl, AllNo.zero _ _, Below.refl _ _⟩
  case round =>
    obtain ⟨k, hk, rfl, hall, hbel⟩ := hrel
    by_cases hlt : k < P.length
    · obtain ⟨b, off, rfl, hb, h1⟩ := rowU_at hrowD hlt (Nat.le_refl _) hbel
      have hst := hall.step hlt 0
      have hfi := fun h => find_at (fun s => !P.any (smaller s)) P k 0 hall hlt h
      have hm := getD_mem P k 0 hlt
      generalize P.getD k 0 = s at h1 hst hm hfi
      have hs64 := HPM.out s hm
      have hbA : Below wr.heap.size wr (wr.alloc (.cells #[.int .u64 s] 95)) := (Below.refl _ _).alloc (Nat.le_refl _) _
      have hsat : SetAt (wr.alloc (.cells #[.int .u64 s] 95)) wr.heap.size s := ⟨by simp, by simp⟩
      have hcs := containsS_any (wr.alloc (.cells #[.int .u64 s] 95)).heap.size 111 #[.pointer (some ⟨wr.heap.size, 0, none⟩)] (smaller s) ent_payer2 (some ⟨b, off, none⟩) cD P (wr.alloc (.cells #[.int .u64 s] 95)) (Nat.le_refl _)
        (fun W t ht hb hB => (payer2_any s t _ W hs64 (HPM.out t ht) (hsat.below (Nat.le_refl _) hb)).mono (by rintro e W' ⟨h, rfl⟩; exact ⟨h, Below.refl _ _⟩)) (hrowD.below (Nat.le_refl _) (hbel.on hbA)) hpl
      obtain ⟨y, hy⟩ : ∃ y, P.any (smaller s) = y := ⟨_, rfl⟩
      rw [hy] at hcs
      simp only [hy] at hst hfi
      have HST := Lib.hid hst
      have HFI := Lib.hid hfi
      have HCS := Lib.hid hcs
      have hzr := hbel.size
      clear hst hfi hcs hall hsat hy
      cases y with
      | true =>
        go_wp2_with (go_at_call 110; refine HCS.out.mono ?_; rintro e w2 ⟨rfl, hb2⟩)
        go_roundw
        case rel => exact ⟨k + 1, hlt, by go_num, HST.out.1 rfl, hbel.on (hbA.on hb2)⟩
        case measure => simp [intOf]; omega
      | false =>
        go_wp2_with (go_at_call 110; refine HCS.out.mono ?_; rintro e w2 ⟨rfl, hb2⟩; obtain ⟨hc2, hf2⟩ := bcell hb2)
        have hfin : payerS n cs = some s := by rw [HPE.out]; exact HFI.out rfl
        have HF := Lib.hid hfin
        clear hfin
        go_ret2
        exact ⟨by rw [HF.out]; rfl, hacD.on (hbel.on (hbA.on hb2))⟩
    · obtain rfl : k = P.length := by omega
      have hfin : payerS n cs = none := by rw [HPE.out]; exact find_none hall
      have HF := Lib.hid hfin
      clear hfin hall
      go_wp2
      go_ret2
      exact ⟨by rw [HF.out]; rfl, hacD.on hbel⟩
end Go.Proofs.YtlnpibboemphnaaGreat.drn

/- Package drain, the walks: pay. -/
namespace Go.Proofs.YtlnpibboemphnaaGreat.drn
open Go.RowKit
set_option linter.unusedSimpArgs false
set_option linter.unusedVariables false

def minL (cs : List Ch) (l : List Int) (m : Int) : Int := l.foldl (fun m i => min m (cs.getD i.toNat (0, 0, 0)).2.2) m
theorem leaving_map (cs : List Ch) (s : Nat) : (leavingS cs s).map (fun i : Int => cs.getD i.toNat (0, 0, 0)) = cs.filter (leavesS s) := by
  unfold leavingS
  rw [List.map_map]
  have h : ∀ (l : List Ch) (pre : List Ch), pre ++ l = cs → ((List.range' pre.length l.length).filter fun i => leavesS s (cs.getD i (0, 0, 0))).map (fun i => cs.getD i (0, 0, 0)) = l.filter (leavesS s) := by
    intro l
    induction l with
    | nil => intro pre _; rfl
    | cons c r ih =>
      intro pre e
      have hc : cs.getD pre.length (0, 0, 0) = c := by rw [← e]; simp
      have h2 := ih (pre ++ [c]) (by rw [← e]; simp)
      rw [List.length_append, List.length_singleton] at h2
      rw [List.length_cons, List.range'_succ, List.filter_cons, List.filter_cons, hc]
      by_cases hl : leavesS s c = true
      · rw [if_pos hl, if_pos hl, List.map_cons, hc, h2]
      · rw [if_neg hl, if_neg hl, h2]
  have h0 := h cs [] rfl
  rw [List.range_eq_range']
  simpa [Function.comp_def] using h0
theorem least_minL (cs : List Ch) (s : Nat) : leastLeft cs s = minL cs (leavingS cs s) 9223372036854775807 := by
  unfold leastLeft minL
  rw [← leaving_map, List.foldl_map]
theorem minL_take (cs : List Ch) (l : List Int) (k : Nat) (h : k < l.length) (m : Int) : minL cs (l.take (k + 1)) m = min (minL cs (l.take k) m) (cs.getD (l.getD k 0).toNat (0, 0, 0)).2.2 := by
  unfold minL
  rw [foldl_take _ _ l k 0 h]
theorem minL_bd (cs : List Ch) : ∀ (l : List Int) (m : Int), (∀ i ∈ l, 0 ≤ (cs.getD i.toNat (0, 0, 0)).2.2 ∧ (cs.getD i.toNat (0, 0, 0)).2.2 ≤ 20) → 0 ≤ m → 0 ≤ minL cs l m ∧ minL cs l m ≤ m ∧ ∀ i ∈ l, minL cs l m ≤ (cs.getD i.toNat (0, 0, 0)).2.2
  | [], m, _, h => ⟨h, Int.le_refl _, by simp⟩
  | i :: r, m, hb, h => by
    have hi := hb i (by simp)
    obtain ⟨a, b, c⟩ := minL_bd cs r (min m (cs.getD i.toNat (0, 0, 0)).2.2) (fun j hj => hb j (by simp [hj])) (by omega)
    have e : minL cs (i :: r) m = minL cs r (min m (cs.getD i.toNat (0, 0, 0)).2.2) := rfl
    rw [e]
    refine ⟨a, by omega, fun j hj => ?_⟩
    rcases List.mem_cons.1 hj with rfl | hj
    · omega
    · exact c j hj
/-- the channels, of the first t of some so much taken away -/
def PartC (cs : List Ch) (L : List Int) (cur : List Ch) (t : Nat) (k : Int) : Prop :=
  cur.length = cs.length ∧ ∀ i : Nat, i < cs.length → cur.getD i (0, 0, 0) = if (i : Int) ∈ L.take t then ((cs.getD i (0, 0, 0)).1, (cs.getD i (0, 0, 0)).2.1, (cs.getD i (0, 0, 0)).2.2 - k) else cs.getD i (0, 0, 0)
theorem PartC.now {cs : List Ch} {L : List Int} {cur : List Ch} {t : Nat} {k : Int} {x : Nat} (h : PartC cs L cur t k) (hL : L.Pairwise (· < ·)) (ht : t < L.length) (hx : L.getD t 0 = x) (hxl : x < cs.length) : cur.getD x (0, 0, 0) = cs.getD x (0, 0, 0) := by
  have hnot := not_in_take hL ht
  rw [hx] at hnot
  rw [h.2 x hxl, if_neg hnot]
theorem PartC.step {cs : List Ch} {L : List Int} {cur : List Ch} {t : Nat} {k : Int} {x : Nat} (h : PartC cs L cur t k) (hL : L.Pairwise (· < ·)) (ht : t < L.length) (hx : L.getD t 0 = x) (hxl : x < cs.length) :
    PartC cs L (cur.set x ((cs.getD x (0, 0, 0)).1, (cs.getD x (0, 0, 0)).2.1, (cs.getD x (0, 0, 0)).2.2 - k)) (t + 1) k := by
  obtain ⟨h1, h2⟩ := h
  refine ⟨by simpa using h1, fun i hi => ?_⟩
  rw [getD_take L t 0 ht, hx]
  by_cases hix : i = x
  · subst hix
    rw [List.getD_eq_getElem?_getD, List.getElem?_set_self (by omega), Option.getD_some, if_pos (by simp)]
  · rw [List.getD_eq_getElem?_getD, List.getElem?_set_ne (fun e => hix e.symm), ← List.getD_eq_getElem?_getD, h2 i hi]
    have : ((i : Int) ∈ L.take t ++ [(x : Int)]) ↔ (i : Int) ∈ L.take t := by
      simp only [List.mem_append, List.mem_singleton]
      constructor
      · rintro (h | h)
        · exact h
        · exact absurd (by omega) hix
      · exact .inl
    by_cases hm : (i : Int) ∈ L.take t
    · rw [if_pos hm, if_pos (this.2 hm)]
    · rw [if_neg hm, if_neg (fun h => hm (this.1 h))]
theorem leaving_mem {cs : List Ch} {s i : Nat} (hi : i < cs.length) : ((i : Int) ∈ leavingS cs s) ↔ leavesS s (cs.getD i (0, 0, 0)) = true := by
  rw [leavingS_eq, rangeF_mem]
  constructor
  · rintro ⟨k, hk, hp, e⟩
    obtain rfl : k = i := by omega
    exact hp
  · intro h
    exact ⟨i, hi, h, rfl⟩
theorem PartC.full {cs : List Ch} {s : Nat} {cur : List Ch} {k : Int} (h : PartC cs (leavingS cs s) cur (leavingS cs s).length k) : cur = takeLeft cs s k := by
  obtain ⟨h1, h2⟩ := h
  apply List.ext_getElem
  · rw [h1]; simp [takeLeft]
  · intro i hi hi2
    have hic : i < cs.length := by omega
    have h3 := h2 i hic
    rw [getD_eq cur i (0, 0, 0) hi, List.take_length] at h3
    rw [h3]
    have e2 : (takeLeft cs s k)[i] = if leavesS s cs[i] then (cs[i].1, cs[i].2.1, cs[i].2.2 - k) else cs[i] := by simp [takeLeft]
    rw [e2]
    have hm := leaving_mem (s := s) hic
    rw [getD_eq cs i (0, 0, 0) hic] at hm ⊢
    by_cases hlv : leavesS s cs[i] = true
    · rw [if_pos hlv, if_pos (hm.2 hlv)]
    · rw [if_neg hlv, if_neg (fun h => hlv (hm.1 h))]
theorem flatC_set (n : Nat) : ∀ (cs : List Ch) (i : Nat) (v : Int), i < cs.length → (flatC n cs).set (i * 3 + 2) (.int .i64 v) = flatC n (cs.set i ((cs.getD i (0, 0, 0)).1, (cs.getD i (0, 0, 0)).2.1, v))
  | [], i, v, h => by simp at h
  | c :: r, 0, v, _ => by simp [flatC]
  | c :: r, i + 1, v, h => by
    have ih := flatC_set n r i v (by simpa using h)
    have e : flatC n (c :: r) = .int .i64 c.1 :: plV n c.2.1 :: .int .i64 c.2.2 :: flatC n r := by simp [flatC]
    have e2 : (c :: r).getD (i + 1) (0, 0, 0) = r.getD i (0, 0, 0) := rfl
    rw [e, e2, show (i + 1) * 3 + 2 = (i * 3 + 2) + 1 + 1 + 1 from by omega, List.set_cons_succ, List.set_cons_succ, List.set_cons_succ, ih, List.set_cons_succ]
    simp [flatC]
end Go.Proofs.YtlnpibboemphnaaGreat.drn

/- Package drain, the walks: pay. -/
namespace Go.Proofs.YtlnpibboemphnaaGreat.drn
open Go.RowKit
set_option linter.unusedSimpArgs false
set_option linter.unusedVariables false

/-- only one block of those that were there has changed -/
def Far (g : Nat) (w w' : World) : Prop := w.heap.size ≤ w'.heap.size ∧ ∀ k, k < w.heap.size → k ≠ g → w'.heap[k]? = w.heap[k]?
theorem Far.trans {g : Nat} {a b c : World} (h1 : Far g a b) (h2 : Far g b c) : Far g a c :=
  ⟨Nat.le_trans h1.1 h2.1, fun k hk hne => (h2.2 k (Nat.lt_of_lt_of_le hk h1.1) hne).trans (h1.2 k hk hne)⟩
theorem far_below {g : Nat} {a b : World} (h : Below a.heap.size a b) : Far g a b := ⟨h.size, fun k hk _ => h.block k hk⟩
theorem far_grown {g : Nat} {a b : World} (h : a.grownBy b (some g)) : Far g a b := ⟨h.size, fun k hk hne => h.block k hk (by intro e; injection e with e; exact hne e)⟩
theorem RowV.far {w w' : World} {q : Option Addr} {vs : List Value} {g : Nat} (h : RowV w q vs) (hne : ∀ a, q = some a → a.block ≠ g) (hf : Far g w w') : RowV w' q vs := by
  rcases h with h | ⟨b, off, e, hz, hc⟩
  · exact .inl h
  · refine .inr ⟨b, off, e, Nat.lt_of_lt_of_le hz hf.1, fun i v hi => ?_⟩
    rw [World.cell?_of_block (a := ⟨b, off + i, none⟩) (hf.2 b hz (hne ⟨b, off, none⟩ e))]
    exact hc i v hi
theorem owns_far {w w' : World} {base : Nat} {e : TypeId} {size : Nat} {v : Value} {n g : Nat} {xs : List Value} (h : w.ownsRow base e size v n xs) (hne : v.ownBlock ≠ some g) (hf : Far g w w') : w'.ownsRow base e size v n xs := by
  have hlt := h.lt
  obtain ⟨h1, h2 | ⟨k, cap, cur, rfl, hg, hh, r⟩⟩ := h
  · exact ⟨h1, .inl h2⟩
  · have := (hlt k rfl).2
    refine ⟨h1, .inr ⟨k, cap, cur, rfl, hg, (hf.2 k this (by intro e; subst e; exact hne rfl)).trans hh, r⟩⟩

set_option maxRecDepth 100000 in
set_option maxHeartbeats 1000000 in
theorem pay_any (n s g base cap : Nat) (cs : List Ch) (w : World) (hc : Chs n cs) (hs : s < 2 ^ n) (hbase : base ≤ w.heap.size) (hne : leavingS cs s ≠ [])
    (hown : w.ownsRow base 134 3 (.slice (some ⟨g, 0, none⟩) cs.length cap) cs.length (flatC n cs)) :
    Calls Tryz.prog 62 #[.slice (some ⟨g, 0, none⟩) cs.length cap, .int .u64 s] w fun e w' => e = .returned (.int .i64 (leastLeft cs s)) ∧
      w'.ownsRow base 134 3 (.slice (some ⟨g, 0, none⟩) cs.length cap) cs.length (flatC n (takeLeft cs s (leastLeft cs s))) ∧ Below base w w' ∧ Far g w w' := by
  obtain ⟨q0, c0, e0, hrow, _, _⟩ := rowV_of_owns hown (by intro h; rw [List.length_eq_zero_iff] at h; rw [h]; rfl)
  injection e0 with e1 _ e2
  subst e1 e2
  have hlv := leaving_any n s (some ⟨g, 0, none⟩) cap cs w hc hs hrow
  have hLs : (leavingS cs s).Pairwise (· < ·) := by rw [leavingS_eq]; exact rangeF_nodup _ _
  have hLm : ∀ t, t < (leavingS cs s).length → ∃ x : Nat, (leavingS cs s).getD t 0 = x ∧ x < cs.length := by
    intro t ht
    have hm := getD_mem (leavingS cs s) t 0 ht
    rw [leavingS_eq, rangeF_mem] at hm
    obtain ⟨i, hi, _, e⟩ := hm
    exact ⟨i, by rw [leavingS_eq]; exact e, hi⟩
  have hcost : ∀ i ∈ leavingS cs s, 0 ≤ (cs.getD i.toNat (0, 0, 0)).2.2 ∧ (cs.getD i.toNat (0, 0, 0)).2.2 ≤ 20 := by
    intro i hi
    rw [leavingS_eq, rangeF_mem] at hi
    obtain ⟨k, hk, _, rfl⟩ := hi
    have := getD_ok hc.ok hk
    exact ⟨this.2.2.2.1, this.2.2.2.2⟩
  have hfull := fun cur h => PartC.full (cs := cs) (s := s) (cur := cur) (k := leastLeft cs s) h
  have hlm := least_minL cs s
  have hbdm := minL_bd cs (leavingS cs s) 9223372036854775807 hcost (by omega)
  rw [← hlm] at hbdm
  have hLl : (leavingS cs s).length ≤ 14 := by rw [leavingS_eq]; exact Nat.le_trans (rangeF_len _ _) hc.many
  obtain ⟨lst, hlst⟩ : ∃ lst, leastLeft cs s = lst := ⟨_, rfl⟩
  rw [hlst] at hfull hlm hbdm ⊢
  obtain ⟨i1, hi1⟩ : ∃ i, i ∈ leavingS cs s := List.exists_mem_of_ne_nil _ hne
  have hle20 : lst ≤ 20 := by have h1 := hbdm.2.2 i1 hi1; have h2 := hcost i1 hi1; omega
  have hge0 := hbdm.1
  obtain ⟨L, hL⟩ : ∃ L, leavingS cs s = L := ⟨_, rfl⟩
  rw [hL] at hlv hLs hLm hcost hfull hlm hbdm hLl
  have HOW := Lib.hid hown
  have HLV := Lib.hid hlv
  have HLS := Lib.hid hLs
  have HLM := Lib.hid hLm
  have HFU := Lib.hid hfull
  have HMIN := Lib.hid hlm
  have HCO := Lib.hid hcost
  have HC := Lib.hid hc
  have hcm := hc.many
  clear hlv hLs hLm hcost hfull hlm hbdm hlst hi1 hL hne hown hs hc
  go_enter Tryz.func62, Tryz.ntmps62
  go_wp2_with (go_at_call 74; refine HLV.out.mono ?_; rintro e w1 ⟨v1, rfl, hown1, hb1⟩; obtain ⟨q1, c1, rfl, hr1, _, hq1⟩ := rowV_of_owns hown1 (by intro h; rw [List.length_eq_zero_iff] at h; rw [h]; rfl))
  have hrow1 := hrow.below (Nat.le_refl _) hb1
  have hownC := owns_below HOW.out (Nat.le_refl _) hb1
  have hbw1 : Below base w w1 := hb1.mono hbase
  have hb1z : base ≤ w1.heap.size := Nat.le_trans hbase hb1.size
  have hgw : g < w.heap.size := (HOW.out.lt g rfl).2
  clear hown1 hrow
  go_loop [6, 16] (fun m i => ∃ t : Nat, t ≤ L.length ∧ i = .int .i64 t ∧ m = .int .i64 (minL cs (L.take t) 9223372036854775807)) (fun _ i => L.length - (intOf i).toNat)
  case atStart => exact ⟨0, Nat.zero_le _, rfl, rfl⟩
  case round =>
    obtain ⟨t, ht, rfl, rfl⟩ := hrel
    by_cases htl : t < L.length
    · obtain ⟨x, hx, hxl⟩ := HLM.out t htl
      obtain ⟨b9, off9, rfl, hb9, h9⟩ := rowI_at hr1 htl (Nat.le_refl _) (Below.refl _ _)
      have hst := minL_take cs L t htl 9223372036854775807
      rw [hx] at h9 hst
      rw [Int.toNat_natCast] at hst
      obtain ⟨b3, off3, e3, hb3, g1, g2, g3⟩ := rowC_at hrow1 hxl (Nat.le_refl _) (Below.refl _ _)
      injection e3 with e3
      injection e3 with e4 e5
      subst e4 e5
      generalize cs.getD x (0, 0, 0) = c at g1 g2 g3 hst
      generalize minL cs (L.take t) 9223372036854775807 = mm at hst ⊢
      have hxi : (x : Int) < (cs.length : Int) := by omega
      have HST := Lib.hid hst
      have g3' : w1.cell? ⟨g, x * 3 + 2, none⟩ = some (.int .i64 c.2.2) := by simpa using g3
      clear hst g1 g2 g3 hx
      go_wp2
      refine ⟨⟨t + 1, htl, by go_num, ?_⟩, by simp [intOf]; omega⟩
      rw [HST.out]
      all_goals first | rfl | (congr 1; split <;> omega)
    · obtain rfl : t = L.length := by omega
      rw [List.take_length, ← HMIN.out]
      have hq1n : ∀ a, q1 = some a → a.block ≠ g := fun a ha => by have := (hq1 a ha).1; omega
      have hcp0 : PartC cs L cs 0 lst := ⟨rfl, fun i hi => by simp⟩
      have HCP0 := Lib.hid hcp0
      clear hcp0
      go_wp2
      go_loopw [30] (fun i wl => ∃ (t : Nat) (cur : List Ch), t ≤ L.length ∧ i = .int .i64 t ∧ wl.ownsRow base 134 3 (.slice (some ⟨g, 0, none⟩) cs.length cap) cs.length (flatC n cur) ∧ PartC cs L cur t lst ∧ RowV wl q1 (flatI L) ∧ Below base w wl ∧ base ≤ wl.heap.size ∧ Far g w wl) (fun i _ => L.length - (intOf i).toNat)
      case atStart => exact ⟨0, cs, Nat.zero_le _, rfl, hownC, HCP0.out, hr1, hbw1, hb1z, far_below hb1⟩
      case round =>
        obtain ⟨t, cur, ht, rfl, ho, hpart, hrl, hbl, hbz, hfar⟩ := hrel
        by_cases htl : t < L.length
        · obtain ⟨x, hx, hxl⟩ := HLM.out t htl
          obtain ⟨b9, off9, rfl, hb9, h9⟩ := rowI_at hrl htl (Nat.le_refl _) (Below.refl _ _)
          have hcx := HCO.out _ (getD_mem L t 0 htl)
          rw [hx] at h9 hcx
          rw [Int.toNat_natCast] at hcx
          have hnow := hpart.now HLS.out htl hx hxl
          have hstep := hpart.step HLS.out htl hx hxl
          have hcl : cur.length = cs.length := hpart.1
          obtain ⟨f0, f1, f2⟩ := flatC_get n cur x (by omega)
          have hce := ho.cellAt (x * 3 + 2) (by omega)
          rw [f2, hnow] at hce
          have hfz := ho.frozenAt (x * 3 + 2)
          have hst := ho.stored (x * 3 + 2) (.int .i64 ((cs.getD x (0, 0, 0)).2.2 - lst))
          rw [flatC_set n cur x _ (by omega), hnow] at hst
          generalize cs.getD x (0, 0, 0) = c at hce hst hstep hcx
          have hw : IntKind.i64.wrap (c.2.2 - lst) = c.2.2 - lst := IntWalk.i64_in _ ⟨by omega, by omega⟩
          have hxi : (x : Int) < (cs.length : Int) := by omega
          have hn9 := hq1n ⟨b9, off9, none⟩ rfl
          have hrl2 := hrl.grown (fun a ha => by injection ha with ha; subst ha; intro e; injection e with e; exact hn9 e) hst.2
          have hbl2 := hbl.grown hst.2 hbz (fun k hk => by injection hk with hk; have := (ho.lt g rfl).1; omega)
          have hbz2 : base ≤ (wr.setCell ⟨g, x * 3 + 2, none⟩ (.int .i64 (c.2.2 - lst))).heap.size := by simpa using hbz
          have HFAR := Lib.hid (hfar.trans (far_grown hst.2))
          have HST := Lib.hid hst.1
          have HSTEP := Lib.hid hstep
          have HRL2 := Lib.hid hrl2
          have HBL2 := Lib.hid hbl2
          have hgz := (ho.lt g rfl).2
          clear hst hstep hrl2 hbl2 ho hpart hrl hx hcl hnow f0 f1 f2 hcx
          go_wp2
          go_roundw
          case rel => exact ⟨t + 1, _, htl, by go_num, HST.out, HSTEP.out, HRL2.out, HBL2.out, hbz2, HFAR.out⟩
          case measure => simp [intOf]; omega
        · obtain rfl : t = L.length := by omega
          have hcur := HFU.out cur hpart
          rw [hcur] at ho
          have HO9 := Lib.hid ho
          clear ho hpart hrl hcur
          go_wp2
          go_ret
          exact ⟨rfl, HO9.out, hbl, hfar⟩
end Go.Proofs.YtlnpibboemphnaaGreat.drn

/- Package drain: the dues' steps come to an end. -/
namespace Go.Proofs.YtlnpibboemphnaaGreat.drn
set_option linter.unusedSimpArgs false
set_option linter.unusedVariables false
/-- how many channels have nothing left -/
def zeros (cs : List Ch) : Nat := cs.countP fun c => c.2.2 == 0
theorem zeros_le (cs : List Ch) : zeros cs ≤ cs.length := List.countP_le_length
theorem takeLeft_ends (cs : List Ch) (s : Nat) (k : Int) : (takeLeft cs s k).map ends = cs.map ends := by
  unfold takeLeft
  rw [List.map_map]
  apply List.map_congr_left
  intro c _
  show ends (if leavesS s c then (c.1, c.2.1, c.2.2 - k) else c) = ends c
  by_cases h : leavesS s c = true
  · rw [if_pos h]; rfl
  · rw [if_neg h]
theorem least_pays {cs : List Ch} {s : Nat} {k : Int} (hk : 0 < k) (hsp : cs.any (spentC s) = false) (hex : ∃ c ∈ cs, leavesS s c = true ∧ c.2.2 = k) : zeros cs + 1 ≤ zeros (takeLeft cs s k) := by
  unfold zeros takeLeft
  rw [List.countP_map]
  have key : ∀ (l : List Ch), l.any (spentC s) = false → l.countP (fun c => c.2.2 == 0) ≤ l.countP ((fun c : Ch => c.2.2 == 0) ∘ fun c => if leavesS s c then (c.1, c.2.1, c.2.2 - k) else c) ∧
      ((∃ c ∈ l, leavesS s c = true ∧ c.2.2 = k) → l.countP (fun c => c.2.2 == 0) + 1 ≤ l.countP ((fun c : Ch => c.2.2 == 0) ∘ fun c => if leavesS s c then (c.1, c.2.1, c.2.2 - k) else c)) := by
    intro l
    induction l with
    | nil => intro _; exact ⟨Nat.le_refl _, by rintro ⟨c, hc, _⟩; cases hc⟩
    | cons c r ih =>
      intro h
      rw [List.any_cons, Bool.or_eq_false_iff] at h
      obtain ⟨i1, i2⟩ := ih h.2
      rw [List.countP_cons, List.countP_cons]
      by_cases hl : leavesS s c = true
      · have hc0 : (c.2.2 == 0) = false := by
          have h1 := h.1
          unfold spentC at h1
          rw [hl, Bool.and_true] at h1
          exact h1
        have e : ((fun c : Ch => c.2.2 == 0) ∘ fun c => if leavesS s c then (c.1, c.2.1, c.2.2 - k) else c) c = (c.2.2 - k == 0) := by
          show ((if leavesS s c then (c.1, c.2.1, c.2.2 - k) else c).2.2 == 0) = _
          rw [if_pos hl]
        rw [hc0, e]
        refine ⟨by cases (c.2.2 - k == 0) <;> simp <;> omega, fun hx => ?_⟩
        by_cases hck : c.2.2 = k
        · have : (c.2.2 - k == 0) = true := by rw [hck]; simp
          rw [this]; simp; omega
        · obtain ⟨d, hd, hd2, hd3⟩ := hx
          rcases List.mem_cons.1 hd with rfl | hd
          · exact absurd hd3 hck
          · have := i2 ⟨d, hd, hd2, hd3⟩
            cases (c.2.2 - k == 0) <;> simp <;> omega
      · have e : ((fun c : Ch => c.2.2 == 0) ∘ fun c => if leavesS s c then (c.1, c.2.1, c.2.2 - k) else c) c = (c.2.2 == 0) := by
          show ((if leavesS s c then (c.1, c.2.1, c.2.2 - k) else c).2.2 == 0) = _
          rw [if_neg hl]
        rw [e]
        refine ⟨by omega, fun hx => ?_⟩
        obtain ⟨d, hd, hd2, hd3⟩ := hx
        rcases List.mem_cons.1 hd with rfl | hd
        · exact absurd hd2 hl
        · have := i2 ⟨d, hd, hd2, hd3⟩
          omega
  exact (key cs hsp).2 hex
/-- the least that is left is what some channel has left -/
theorem least_of {cs : List Ch} {s : Nat} (hb : ∀ c ∈ cs, 0 ≤ c.2.2 ∧ c.2.2 ≤ 20) (hex : ∃ c ∈ cs, leavesS s c = true) : (∃ c ∈ cs, leavesS s c = true ∧ c.2.2 = leastLeft cs s) ∧ ∀ c ∈ cs, leavesS s c = true → leastLeft cs s ≤ c.2.2 := by
  have key : ∀ (l : List Ch) (m : Int), (l.foldl (fun m c => min m c.2.2) m = m ∨ ∃ c ∈ l, c.2.2 = l.foldl (fun m c => min m c.2.2) m) ∧ (l.foldl (fun m c => min m c.2.2) m ≤ m) ∧ ∀ c ∈ l, l.foldl (fun m c => min m c.2.2) m ≤ c.2.2 := by
    intro l
    induction l with
    | nil => intro m; exact ⟨.inl rfl, Int.le_refl _, by simp⟩
    | cons c r ih =>
      intro m
      rw [List.foldl_cons]
      obtain ⟨a, b, d⟩ := ih (min m c.2.2)
      refine ⟨?_, by omega, fun e he => ?_⟩
      · rcases a with a | ⟨e, he, h⟩
        · rcases Int.le_total m c.2.2 with h | h
          · left; rw [a]; omega
          · right; exact ⟨c, by simp, by rw [a]; omega⟩
        · right; exact ⟨e, by simp [he], h⟩
      · rcases List.mem_cons.1 he with rfl | he
        · omega
        · exact d e he
  obtain ⟨a, b, d⟩ := key (cs.filter (leavesS s)) 9223372036854775807
  have hd : ∀ c ∈ cs, leavesS s c = true → leastLeft cs s ≤ c.2.2 := fun c hc hl => d c (List.mem_filter.2 ⟨hc, hl⟩)
  refine ⟨?_, hd⟩
  rcases a with a | ⟨c, hc, h⟩
  · obtain ⟨c, hc, hl⟩ := hex
    have h1 := hd c hc hl
    have h2 := hb c hc
    have h3 : leastLeft cs s = 9223372036854775807 := a
    omega
  · obtain ⟨h1, h2⟩ := List.mem_filter.1 hc
    exact ⟨c, h1, h2, h⟩
theorem take_ok {n : Nat} {cs : List Ch} {s : Nat} (hc : Chs n cs) (hex : ∃ c ∈ cs, leavesS s c = true) : Chs n (takeLeft cs s (leastLeft cs s)) := by
  have hb : ∀ c ∈ cs, 0 ≤ c.2.2 ∧ c.2.2 ≤ 20 := fun c hm => ⟨(hc.ok c hm).2.2.2.1, (hc.ok c hm).2.2.2.2⟩
  obtain ⟨⟨c0, hm0, _, e0⟩, hle⟩ := least_of hb hex
  have h0 := hb c0 hm0
  refine ⟨hc.n1, hc.n6, by simpa [takeLeft] using hc.many, fun c hm => ?_⟩
  unfold takeLeft at hm
  obtain ⟨d, hd, rfl⟩ := List.mem_map.1 hm
  obtain ⟨a1, a2, a3, a4, a5⟩ := hc.ok d hd
  show ChOk n (if leavesS s d then (d.1, d.2.1, d.2.2 - leastLeft cs s) else d)
  by_cases hl : leavesS s d = true
  · rw [if_pos hl]
    have := hle d hd hl
    exact ⟨a1, a2, a3, by show 0 ≤ d.2.2 - _; omega, by show d.2.2 - _ ≤ 20; omega⟩
  · rw [if_neg hl]
    exact ⟨a1, a2, a3, a4, a5⟩
/-- a hill without a trap: some channel leaves each group, whatever is left -/
theorem leaves_some {n : Nat} {cs : List Ch} (hc : Chs n cs) (hw : wetS n cs = allS n) {s : Nat} (hs : s ∈ groupsS n 0) : ∃ c ∈ cs, leavesS s c = true := by
  apply Classical.byContradiction
  intro hno
  have h := (trap_iff hc.n6 hc.ok).1 ⟨s, hs, fun c hm => by
    apply Classical.byContradiction
    intro h
    exact hno ⟨c, hm, by simpa using h⟩⟩
  exact h hw
theorem wet_take (n : Nat) (cs : List Ch) (s : Nat) (k : Int) : wetS n (takeLeft cs s k) = wetS n cs := wetTo_alike n (takeLeft_ends cs s k) 7 0
end Go.Proofs.YtlnpibboemphnaaGreat.drn

/- Package drain, the walks: Dues. -/
namespace Go.Proofs.YtlnpibboemphnaaGreat.drn
open Go.RowKit
set_option linter.unusedSimpArgs false
set_option linter.unusedVariables false

theorem ListB_below {w w' : World} {g : Nat} {ob : Option Nat} {v : Value} {l : List Int} (h : ∃ q c, v = .slice q l.length c ∧ RowV w q (flatI l) ∧ ∀ a, q = some a → a.block ≠ g ∧ some a.block ≠ ob ∧ a.block < w.heap.size) (hb : Below w.heap.size w w') :
    ∃ q c, v = .slice q l.length c ∧ RowV w' q (flatI l) ∧ ∀ a, q = some a → a.block ≠ g ∧ some a.block ≠ ob ∧ a.block < w'.heap.size := by
  obtain ⟨q, c, e, h1, h2⟩ := h
  exact ⟨q, c, e, h1.below (Nat.le_refl _) hb, fun a ha => ⟨(h2 a ha).1, (h2 a ha).2.1, Nat.lt_of_lt_of_le (h2 a ha).2.2 hb.size⟩⟩
theorem ListB_far {w w' : World} {g : Nat} {ob : Option Nat} {v : Value} {l : List Int} (h : ∃ q c, v = .slice q l.length c ∧ RowV w q (flatI l) ∧ ∀ a, q = some a → a.block ≠ g ∧ some a.block ≠ ob ∧ a.block < w.heap.size) (hb : Far g w w') :
    ∃ q c, v = .slice q l.length c ∧ RowV w' q (flatI l) ∧ ∀ a, q = some a → a.block ≠ g ∧ some a.block ≠ ob ∧ a.block < w'.heap.size := by
  obtain ⟨q, c, e, h1, h2⟩ := h
  exact ⟨q, c, e, h1.far (fun a ha => (h2 a ha).1) hb, fun a ha => ⟨(h2 a ha).1, (h2 a ha).2.1, Nat.lt_of_lt_of_le (h2 a ha).2.2 hb.1⟩⟩
theorem ListB_grown {w w' : World} {g : Nat} {ob ob' : Option Nat} {v : Value} {l : List Int} (h : ∃ q c, v = .slice q l.length c ∧ RowV w q (flatI l) ∧ ∀ a, q = some a → a.block ≠ g ∧ some a.block ≠ ob ∧ a.block < w.heap.size) (hb : w.grownBy w' ob) (ho : ob' = ob ∨ ob' = some w.heap.size) :
    ∃ q c, v = .slice q l.length c ∧ RowV w' q (flatI l) ∧ ∀ a, q = some a → a.block ≠ g ∧ some a.block ≠ ob' ∧ a.block < w'.heap.size := by
  obtain ⟨q, c, e, h1, h2⟩ := h
  refine ⟨q, c, e, h1.grown (fun a ha => (h2 a ha).2.1) hb, fun a ha => ⟨(h2 a ha).1, ?_, Nat.lt_of_lt_of_le (h2 a ha).2.2 hb.size⟩⟩
  rcases ho with rfl | rfl
  · exact (h2 a ha).2.1
  · intro e
    injection e with e
    have := (h2 a ha).2.2
    omega
theorem infoD : (Tryz.prog.info? 56).map (fun i => (i.zero, i.size, i.bytes)) = some (some (.agg #[.slice none 0 0, .int .i64 0]), 2, 32) := by kernel_rfl
theorem flatD_snoc : ∀ (vs : List Value) (ds : List Du) (v : Value) (d : Du), vs.length = ds.length → flatD (vs ++ [v]) (ds ++ [d]) = flatD vs ds ++ [v, .int .i64 d.2]
  | [], [], v, d, _ => rfl
  | u :: vs, e :: ds, v, d, h => by
    have ih := flatD_snoc vs ds v d (by simpa using h)
    show u :: .int .i64 e.2 :: flatD (vs ++ [v]) (ds ++ [d]) = u :: .int .i64 e.2 :: (flatD vs ds ++ [v, .int .i64 d.2])
    rw [ih]
  | [], _ :: _, _, _, h => by simp at h
  | _ :: _, [], _, _, h => by simp at h
/-- a list in memory beside two blocks -/
def ListB (w : World) (g : Nat) (ob : Option Nat) (v : Value) (l : List Int) : Prop := ∃ q c, v = .slice q l.length c ∧ RowV w q (flatI l) ∧ ∀ a, q = some a → a.block ≠ g ∧ some a.block ≠ ob ∧ a.block < w.heap.size
/-- dues, and an error -/
def RetD (w : World) (ds : List Du) (err : Int) (e : Ending) (w' : World) : Prop :=
  ∃ q c vs, e = .returned (.tuple #[.slice q ds.length c, .int .i64 err]) ∧ DuesAt w' q vs ds ∧ Below w.heap.size w w'
theorem duesAt_nil (w : World) : DuesAt w none [] [] := ⟨.inl rfl, trivial⟩
theorem duesF_step {n f : Nat} {cs : List Ch} {s : Nat} (h : payerS n cs = some s) : duesF n (f + 1) cs = (listS s, leastLeft cs s) :: duesF n f (takeLeft cs s (leastLeft cs s)) := by
  rw [duesF, h]
theorem duesF_done {n f : Nat} {cs : List Ch} (h : payerS n cs = none) : duesF n (f + 1) cs = [] := by rw [duesF, h]
theorem payer_in {n : Nat} {cs : List Ch} {s : Nat} (h : payerS n cs = some s) : s ∈ groupsS n 0 ∧ cs.any (spentC s) = false := by
  rw [payerS_eq] at h
  have hm := List.mem_of_find?_eq_some h
  rw [payersS_eq] at hm
  obtain ⟨h1, h2⟩ := List.mem_filter.1 hm
  exact ⟨h1, by simpa using h2⟩
theorem leaving_ne {cs : List Ch} {s : Nat} (h : ∃ c ∈ cs, leavesS s c = true) : leavingS cs s ≠ [] := by
  obtain ⟨c, hc, hl⟩ := h
  intro e
  have hm := leaving_map cs s
  rw [e] at hm
  have : c ∈ cs.filter (leavesS s) := List.mem_filter.2 ⟨hc, hl⟩
  rw [← hm] at this
  simp at this

set_option maxRecDepth 100000 in
set_option maxHeartbeats 2000000 in
theorem Dues_any (n : Int) (q : Option Addr) (cap : Nat) (cs : List Ch) (w : World) (hr : RowV w q (flatT cs)) (hcap : cs.length ≤ cap) :
    Calls Tryz.prog 15 #[hillV n q cs.length cap] w (RetD w (duesOf n.toNat cs).1 (duesOf n.toNat cs).2) := by
  have hb0 : Below w.heap.size w (w.alloc (.cells #[.int .i64 n, .slice q cs.length cap] 28)) := (Below.refl _ _).alloc (Nat.le_refl _) _
  have c1 := Check_any n q cap cs _ (hr.below (Nat.le_refl _) hb0) hcap
  have HB := Lib.hid hb0
  by_cases h0 : errD n cs = 0
  · obtain ⟨m, rfl, hchs⟩ := chs_of h0
    have hn6 := hchs.n6
    have hch := fun W hb => channelsOf_any m q cap cs W hchs (hr.below (Nat.le_refl _) hb)
    have hdr := fun W q3 c3 h3 => drained_any m q3 c3 cs W hchs h3
    have hal := fun W => allOf_any m q cs.length cap W hn6
    have hwb := wetS_bd hchs.ok
    unfold hillV at *
    rw [h0] at c1
    have C1 := Lib.hid c1
    have HCH := Lib.hid hch
    have HDR := Lib.hid hdr
    have HAL := Lib.hid hal
    by_cases hwet : wetS m cs = allS m
    · have hans : duesOf ((m : Int).toNat) cs = (duesF m (cs.length + 1) cs, 0) := by
        unfold duesOf
        rw [Int.toNat_natCast, if_neg (fun h => h h0), if_neg (fun h => h hwet)]
      rw [hans]
      have hwb2 : (((wetS m cs : Nat) : Int) != ((allS m : Nat) : Int)) = false := by rw [hwet]; simp
      have HWET := Lib.hid hwet
      have HC := Lib.hid hchs
      have hcm := hchs.many
      clear hans h0 hr hb0 hchs c1 hch hdr hal hwet hwb
      go_enter Tryz.func15, Tryz.ntmps15
      go_upto_region 5 with (first
        | (go_at_call 17; refine C1.out.mono ?_; rintro e w1 ⟨rfl, hb1⟩; obtain ⟨hc1, hf1⟩ := bcell hb1; have hac1 : Below w.heap.size w w1 := HB.out.on hb1; have hz0 : w.heap.size < w1.heap.size := (by have := hb1.size; simp at this; omega))
        | (go_at_call 58; refine (HCH.out w1 hac1).mono ?_; rintro e w2 ⟨v2, rfl, hown2, hb2⟩))
      obtain ⟨d0, d1⟩ : w1.cell? ⟨w.heap.size, 0, none⟩ = some (.int .i64 m) ∧ w1.cell? ⟨w.heap.size, 1, none⟩ = some (.slice q cs.length cap) := ⟨by rw [hc1 _ _ (by simp)]; simp, by rw [hc1 _ _ (by simp)]; simp⟩
      have e0 := (hb2.cell (p := ⟨w.heap.size, 0, none⟩) hz0).trans d0
      have e1 := (hb2.cell (p := ⟨w.heap.size, 1, none⟩) hz0).trans d1
      have hz2 : w.heap.size < w2.heap.size := Nat.lt_of_lt_of_le hz0 hb2.size
      have hac2 := hac1.on hb2
      obtain ⟨q2, c2, rfl, hrow2, _, hqb2⟩ := rowV_of_owns hown2 (by intro h; rw [List.length_eq_zero_iff] at h; rw [h]; rfl)
      clear hc1 hf1 d0 d1
      go_region_held3 (fun W => W.cell? ⟨w.heap.size, 0, none⟩ = some (.int .i64 m) ∧ W.cell? ⟨w.heap.size, 1, none⟩ = some (.slice q cs.length cap)) (first | exact ⟨e0, e1⟩ | exact ⟨f0, f1⟩ | exact ⟨g0, g1⟩ | go_keep)
        (first
        | (go_at_call 59; refine (HDR.out _ q2 c2 (hrow2.below (Nat.le_refl _) (Below.refl _ _).drew)).mono ?_; rintro e w3 ⟨rfl, hb3'⟩; have hb3 : Below w2.heap.size w2 w3 := (((Below.refl _ _).drew).on hb3'); have f0 := (hb3.cell (p := ⟨w.heap.size, 0, none⟩) hz2).trans e0; have f1 := (hb3.cell (p := ⟨w.heap.size, 1, none⟩) hz2).trans e1; have hz3 : w.heap.size < w3.heap.size := Nat.lt_of_lt_of_le hz2 hb3.size)
        | (go_at_call 60; refine (HAL.out _).mono ?_; rintro e w4 ⟨rfl, hb4⟩; have g0 := (hb4.cell (p := ⟨w.heap.size, 0, none⟩) hz3).trans f0; have g1 := (hb4.cell (p := ⟨w.heap.size, 1, none⟩) hz3).trans f1)
        | fail)
      have hb24 := hb3.on hb4
      have hown4 := owns_below hown2 (Nat.le_refl _) hb24
      have hac4 := hac2.on hb24
      have hcne : cs ≠ [] := by
        obtain ⟨k, rfl⟩ : ∃ k, m = k + 1 := ⟨m - 1, by have := HC.out.n1; omega⟩
        obtain ⟨c, hc, _⟩ := leaves_some HC.out HWET.out (s := 1 <<< 0) (by simp [groupsS])
        intro e
        rw [e] at hc
        cases hc
      have hlen0 : 0 < cs.length := List.length_pos_iff.2 hcne
      obtain ⟨g, rfl, hgb⟩ : ∃ g, q2 = some ⟨g, 0, none⟩ ∧ w1.heap.size ≤ g := by
        obtain ⟨_, h2 | ⟨g, cap', cur, hv, hb, _⟩⟩ := hown2
        · omega
        · cases hv; exact ⟨g, rfl, hb⟩
      have hg4 : g < w4.heap.size := (hown4.lt g rfl).2
      have HLEN0 := Lib.hid hlen0
      have hnp := fun W cur (hcu : Chs m cur) h => nextPayer_any m q cs.length cap (some ⟨g, 0, none⟩) c2 cur W hcu h
      unfold hillV at hnp
      have HNP := Lib.hid hnp
      clear e0 e1 f0 f1 hrow2 hcne hlen0 hb1 hqb2 hnp hb3 hb4
      go_wp2
      clear hwb2
      go_loopg [6] (cs.length + 1) (fun f v wl => ∃ (cur : List Ch) (done : List Du) (gv : List Value), cur.length = cs.length ∧ Chs m cur ∧ wetS m cur = allS m ∧ cs.length + 1 ≤ f + zeros cur ∧ done ++ duesF m f cur = duesF m (cs.length + 1) cs ∧ done.length + f ≤ cs.length + 1 ∧
        wl.ownsRow w1.heap.size 134 3 (.slice (some ⟨g, 0, none⟩) cs.length c2) cs.length (flatC m cur) ∧ wl.ownsRow w4.heap.size 56 2 v done.length (flatD gv done) ∧ gv.length = done.length ∧ InL (ListB wl g v.ownBlock) gv (done.map (·.1)) ∧
        wl.cell? ⟨w.heap.size, 0, none⟩ = some (.int .i64 m) ∧ wl.cell? ⟨w.heap.size, 1, none⟩ = some (.slice q cs.length cap) ∧ Below w.heap.size w wl ∧ w4.heap.size ≤ wl.heap.size)
      case atStart => exact ⟨cs, [], [], rfl, HC.out, HWET.out, by omega, rfl, by simp, hown4, World.ownsRow_nil _ _ _ _, rfl, trivial, g0, g1, hac4, Nat.le_refl _⟩
      case round =>
        obtain ⟨cur, done, gv, hcl, hcc, hcw, hz, hdone, hdl, hoC, hoD, hgl, hin, k0, k1, hbw, hsz⟩ := hrel
        have hzl := zeros_le cur
        obtain ⟨f, hf⟩ : ∃ f, gk = f + 1 := ⟨gk - 1, by omega⟩
        subst hf
        obtain ⟨qC, cC, eC, hrowC, _, _⟩ := rowV_of_owns hoC (by intro h; have := HLEN0.out; omega)
        injection eC with eC1 _ eC2
        subst eC1 eC2
        have hnp := HNP.out wr cur hcc hrowC
        rw [hcl] at hnp
        have hzw : w.heap.size < wr.heap.size := by omega
        have hvg : u6.ownBlock ≠ some g := fun e => by have := (hoD.lt g e).1; omega
        have hdl20 : done.length ≤ 20 := by omega
        cases hp : payerS m cur with
        | none =>
          rw [hp] at hnp
          rw [duesF_done hp, List.append_nil] at hdone
          obtain ⟨qD, cD, rfl, hrD, _, _⟩ := rowV_of_owns hoD (by intro h; have h1 := List.length_eq_zero_iff.1 h; have h2 : gv = [] := List.length_eq_zero_iff.1 (by omega); rw [h1, h2]; rfl)
          have HNP2 := Lib.hid hnp
          have HDONE := Lib.hid hdone
          have HRD := Lib.hid hrD
          have HIN := Lib.hid hin
          clear hnp hdone hrD hin hoC hoD hrowC hp hz hcw hcc hdl
          go_wp2_with (go_at_call 61; refine HNP2.out.mono ?_; rintro e w5 ⟨rfl, hb5⟩)
          go_ret2
          refine ⟨qD, cD, gv, by rw [← HDONE.out]; rfl, ?_, hbw.on hb5⟩
          rw [← HDONE.out]
          exact ⟨HRD.out.below (Nat.le_refl _) hb5, InL.mono (fun v l ⟨q, c, e, h1, _⟩ => ⟨q, c, e, h1.below (Nat.le_refl _) hb5⟩) HIN.out⟩
        | some s =>
          rw [hp] at hnp
          obtain ⟨hsg, hsp⟩ := payer_in hp
          have hs2 := (mem_groups.1 hsg).2
          have hs64 := pow_64 hn6 hs2
          have hex := leaves_some hcc hcw hsg
          have hcb : ∀ c ∈ cur, 0 ≤ c.2.2 ∧ c.2.2 ≤ 20 := fun c hm => ⟨(hcc.ok c hm).2.2.2.1, (hcc.ok c hm).2.2.2.2⟩
          obtain ⟨hatt, hlew⟩ := least_of hcb hex
          have hpos : 0 < leastLeft cur s := by
            obtain ⟨c, hc, hl, e⟩ := hatt
            have h1 := (hcb c hc).1
            have h2 : c.2.2 ≠ 0 := by
              intro h0
              have : cur.any (spentC s) = true := List.any_eq_true.2 ⟨c, hc, by simp [spentC, h0, hl]⟩
              rw [hsp] at this
              cases this
            omega
          have hz2' := least_pays hpos hsp hatt
          have hcc2 := take_ok hcc hex
          have hcw2 : wetS m (takeLeft cur s (leastLeft cur s)) = allS m := by rw [wet_take]; exact hcw
          have hcl2 : (takeLeft cur s (leastLeft cur s)).length = cs.length := by rw [← hcl]; simp [takeLeft]
          rw [duesF_step hp] at hdone
          have hpay := fun W (hbz : w1.heap.size ≤ W.heap.size) h => pay_any m s g w1.heap.size c2 cur W hcc hs2 hbz (leaving_ne hex) h
          rw [hcl] at hpay
          generalize takeLeft cur s (leastLeft cur s) = cur2 at *
          generalize leastLeft cur s = lst at *
          have HNP2 := Lib.hid hnp
          have HPAY := Lib.hid hpay
          have HDONE := Lib.hid hdone
          have HIN := Lib.hid hin
          have HOC := Lib.hid hoC
          have HOD := Lib.hid hoD
          have HZ := Lib.hid (show cs.length + 1 ≤ f + zeros cur2 by omega)
          have HC2 := Lib.hid hcc2
          have HW2 := Lib.hid hcw2
          have HL2 := Lib.hid hcl2
          have HGL := Lib.hid hgl
          have hz1b : w1.heap.size ≤ wr.heap.size := by omega
          clear hnp hpay hdone hin hoC hoD hrowC hp hz hcw hcc hz2' hcc2 hcw2 hcl2 hatt hlew hcb hex hsg hsp hgl hs2 hzl
          go_wp2_with (first
            | (go_at_call 61; refine HNP2.out.mono ?_; rintro e w5 ⟨rfl, hb5⟩; have hoC5 := Lib.hid (owns_below HOC.out (Nat.le_refl _) hb5); have hz5 : w1.heap.size ≤ w5.heap.size := Nat.le_trans hz1b hb5.size)
            | (go_at_call 62; refine (HPAY.out w5 hz5 hoC5.out).mono ?_; rintro e w6 ⟨rfl, hoC6, hb6, hfar6⟩; have HOC6 := Lib.hid hoC6; clear hoC6)
            | (go_at_call 63; refine (list_any s _ hs64).mono ?_; rintro e w7 ⟨v7, rfl, hown7, hb7⟩; obtain ⟨q7, c7, rfl, hrow7, _, hq7⟩ := rowV_of_owns hown7 (by intro h; rw [List.length_eq_zero_iff] at h; rw [h]; rfl); have hoD7 := Lib.hid (owns_below (owns_far (owns_below HOD.out (Nat.le_refl _) hb5) hvg hfar6) (Nat.le_refl _) hb7); have hz7 : w4.heap.size ≤ w7.heap.size := Nat.le_trans hsz (Nat.le_trans hb5.size (Nat.le_trans hfar6.1 hb7.size)))
            | (at_builtin; refine app_one _ rfl (.tmp 34) (.tmp 39) 39 rfl w4.heap.size 56 _ 2 32 Tryz.underlying39 infoD rfl (by decide) (by decide) u6 done.length (flatD gv done) rfl (hoD7.out.alloc _) w7.heap.size 1 rfl [.slice q7 (listS s).length c7, .int .i64 lst] rfl ?_ ?_ (by omega) (by simp; omega) ?_; (focus (intro j u hj; match j, hj with | 0, hj => (simp at hj; subst hj; simp) | 1, hj => (simp at hj; subst hj; simp))); (focus (intro u hu; simp at hu; rcases hu with rfl | rfl <;> rfl)); intro v8 w8 hown8 hgr8 hbk8))
          have hbE : Below w7.heap.size w7 (w7.alloc (.cells #[.slice q7 (listS s).length c7, .int .i64 lst] 56)) := (Below.refl _ _).alloc (Nat.le_refl _) _
          have hb56 : Below w.heap.size w w6 := (hbw.on hb5).trans (hb6.mono (by have := hac1.size; omega))
          have hb57 : Below w.heap.size w w7 := hb56.on hb7
          have hb8 : Below w.heap.size w w8 := (hb57.on hbE).trans ((grown_below (hoD7.out.alloc _) (by simp; omega) hgr8).mono (by have := hac4.size; omega))
          have hsz5 := hb5.size
          have hsz6 := hfar6.1
          have hsz7 := hb7.size
          have hz6w : w.heap.size < w6.heap.size := by omega
          have hz7w : w.heap.size < w7.heap.size := by omega
          have hkw : some w.heap.size ≠ u6.ownBlock := fun e => by have := (HOD.out.lt _ e.symm).1; omega
          have hcell : ∀ (o : Nat) (v : Value), wr.cell? ⟨w.heap.size, o, none⟩ = some v → w8.cell? ⟨w.heap.size, o, none⟩ = some v := by
            intro o v h
            have h5 := (hb5.cell (p := ⟨w.heap.size, o, none⟩) hzw).trans h
            have h6 := (hb6.cell (p := ⟨w.heap.size, o, none⟩) hz0).trans h5
            have h7 := (hb7.cell (p := ⟨w.heap.size, o, none⟩) hz6w).trans h6
            have h7a := (hbE.cell (p := ⟨w.heap.size, o, none⟩) hz7w).trans h7
            exact hgr8.cell h7a hkw
          have hoC8 : w8.ownsRow w1.heap.size 134 3 (.slice (some ⟨g, 0, none⟩) cs.length c2) cs.length (flatC m cur2) :=
            ((owns_below HOC6.out (Nat.le_refl _) hb7).alloc _).kept hgr8 (.inr fun e => hvg (by rw [← e]; rfl))
          have hz8 := hgr8.size
          have hin8 : InL (ListB w8 g v8.ownBlock) (gv ++ [.slice q7 (listS s).length c7]) ((done ++ [(listS s, lst)]).map (·.1)) := by
            rw [List.map_append]
            refine InL.app (InL.mono (fun v l h => ?_) HIN.out) ⟨?_, trivial⟩
            · exact ListB_grown (ListB_below (ListB_below (ListB_far (ListB_below h hb5) hfar6) hb7) hbE) hgr8 hbk8
            · have hnew : ListB w7 g u6.ownBlock (.slice q7 (listS s).length c7) (listS s) := by
                refine ⟨q7, c7, rfl, hrow7, fun a ha => ?_⟩
                have h1 := hq7 a ha
                refine ⟨by omega, fun e => ?_, h1.2⟩
                have := (HOD.out.lt _ e.symm).2
                omega
              exact ListB_grown (ListB_below hnew hbE) hgr8 hbk8
          have hD8 : w8.ownsRow w4.heap.size 56 2 v8 (done ++ [(listS s, lst)]).length (flatD (gv ++ [.slice q7 (listS s).length c7]) (done ++ [(listS s, lst)])) := by
            rw [flatD_snoc gv done _ _ HGL.out, List.length_append]
            exact hown8
          have HIN8 := Lib.hid hin8
          have HD8 := Lib.hid hD8
          have HOC8 := Lib.hid hoC8
          have HK0 := Lib.hid (hcell 0 _ k0)
          have HK1 := Lib.hid (hcell 1 _ k1)
          have hz48 : w4.heap.size ≤ w8.heap.size := by simp at hz8; omega
          clear hin8 hD8 hoC8 hcell hown8 hgr8 hbk8 hrow7 hown7 hkw
          go_roundg f
          case measure => omega
          case rel => exact ⟨cur2, done ++ [(listS s, lst)], gv ++ [.slice q7 (listS s).length c7], HL2.out, HC2.out, HW2.out, HZ.out, by rw [← HDONE.out]; simp, by simp; omega, HOC8.out, HD8.out, by simp [HGL.out], HIN8.out, HK0.out, HK1.out, hb8, hz48⟩
    · have hans : duesOf ((m : Int).toNat) cs = ([], 12) := by
        unfold duesOf
        rw [Int.toNat_natCast, if_neg (fun h => h h0), if_pos hwet]
      rw [hans]
      have hwb2 : (((wetS m cs : Nat) : Int) != ((allS m : Nat) : Int)) = true := by
        have : ((wetS m cs : Nat) : Int) ≠ ((allS m : Nat) : Int) := by omega
        simpa using this
      clear hans h0 hr hb0 hchs c1 hch hdr hal hwet hwb
      go_enter Tryz.func15, Tryz.ntmps15
      go_upto_region 5 with (first
        | (go_at_call 17; refine C1.out.mono ?_; rintro e w1 ⟨rfl, hb1⟩; obtain ⟨hc1, hf1⟩ := bcell hb1; have hac1 : Below w.heap.size w w1 := HB.out.on hb1; have hz0 : w.heap.size < w1.heap.size := (by have := hb1.size; simp at this; omega))
        | (go_at_call 58; refine (HCH.out w1 hac1).mono ?_; rintro e w2 ⟨v2, rfl, hown2, hb2⟩))
      obtain ⟨d0, d1⟩ : w1.cell? ⟨w.heap.size, 0, none⟩ = some (.int .i64 m) ∧ w1.cell? ⟨w.heap.size, 1, none⟩ = some (.slice q cs.length cap) := ⟨by rw [hc1 _ _ (by simp)]; simp, by rw [hc1 _ _ (by simp)]; simp⟩
      have e0 := (hb2.cell (p := ⟨w.heap.size, 0, none⟩) hz0).trans d0
      have e1 := (hb2.cell (p := ⟨w.heap.size, 1, none⟩) hz0).trans d1
      have hz2 : w.heap.size < w2.heap.size := Nat.lt_of_lt_of_le hz0 hb2.size
      have hac2 := hac1.on hb2
      obtain ⟨q2, c2, rfl, hrow2, _, hqb2⟩ := rowV_of_owns hown2 (by intro h; rw [List.length_eq_zero_iff] at h; rw [h]; rfl)
      clear hc1 hf1 d0 d1
      go_region_held3 (fun W => W.cell? ⟨w.heap.size, 0, none⟩ = some (.int .i64 m) ∧ W.cell? ⟨w.heap.size, 1, none⟩ = some (.slice q cs.length cap)) (first | exact ⟨e0, e1⟩ | exact ⟨f0, f1⟩ | exact ⟨g0, g1⟩ | go_keep)
        (first
        | (go_at_call 59; refine (HDR.out _ q2 c2 (hrow2.below (Nat.le_refl _) (Below.refl _ _).drew)).mono ?_; rintro e w3 ⟨rfl, hb3'⟩; have hb3 : Below w2.heap.size w2 w3 := (((Below.refl _ _).drew).on hb3'); have f0 := (hb3.cell (p := ⟨w.heap.size, 0, none⟩) hz2).trans e0; have f1 := (hb3.cell (p := ⟨w.heap.size, 1, none⟩) hz2).trans e1; have hz3 : w.heap.size < w3.heap.size := Nat.lt_of_lt_of_le hz2 hb3.size)
        | (go_at_call 60; refine (HAL.out _).mono ?_; rintro e w4 ⟨rfl, hb4⟩; have g0 := (hb4.cell (p := ⟨w.heap.size, 0, none⟩) hz3).trans f0; have g1 := (hb4.cell (p := ⟨w.heap.size, 1, none⟩) hz3).trans f1)
        | fail)
      clear e0 e1 f0 f1 g0 g1 hrow2
      go_wp2
      go_ret2
      exact ⟨none, 0, [], rfl, duesAt_nil _, hac2.on (hb3.on hb4)⟩
  · have hans : duesOf n.toNat cs = ([], errD n cs) := by
      unfold duesOf
      rw [errD_nat, if_pos h0]
    rw [hans]
    have hb : (errD n cs != 0) = true := by simpa using h0
    unfold hillV at *
    have C1 := Lib.hid c1
    clear hans h0 hr hb0 c1
    go_enter Tryz.func15, Tryz.ntmps15
    go_wp2_with (go_at_call 17; refine C1.out.mono ?_; rintro e w1 ⟨rfl, hb1⟩)
    go_ret2
    exact ⟨none, 0, [], rfl, duesAt_nil _, HB.out.on hb1⟩
end Go.Proofs.YtlnpibboemphnaaGreat.drn

/- Helpers of the law: paid, for dues of groups. -/
namespace Go.Proofs.YtlnpibboemphnaaGreat.drn
open Go.RowKit
set_option linter.unusedSimpArgs false
set_option linter.unusedVariables false
/-- make([]int, n), as an equation -/
theorem run_ints (W : World) (n : Nat) (hn : n ≤ 1000) : ∃ w', (Instr.makeSlice 31 (.int .i64 (n : Int)) (.int .i64 (n : Int))).run Tryz.prog W = .ok (.slice (some ⟨W.heap.size, 0, none⟩) n n) w' ∧ w'.ownsRow W.heap.size 3 1 (.slice (some ⟨W.heap.size, 0, none⟩) n n) n (flatI (List.replicate n 0)) ∧ Below W.heap.size W w' := by
  obtain ⟨i0, hi, hz0, hz1, hz2⟩ := info_parts infoI
  obtain ⟨w', hrun, r1, r2⟩ := run_make_full (P := Tryz.prog) W W.heap.size 31 3 i0 (.int .i64 0) 1 Tryz.underlying31 hi hz0 hz1 .i64 .i64 n (by rw [hz2]; omega) (by unfold maxLen; omega) (Nat.le_refl _)
  refine ⟨w', hrun, ?_, (Below.refl _ _).grown r2 (Nat.le_refl _) (by simp)⟩
  rw [madeI] at r1
  exact r1
theorem or_i (s x : Nat) (hs : s < 64) (hx : x < 6) : bits BinOp.or IntKind.i64 (s : Int) (wrap64 (2 ^ x)) = ((s ||| 1 <<< x : Nat) : Int) := by
  have hd : ∀ s : Nat, s < 64 → ∀ x : Nat, x < 6 → bits BinOp.or IntKind.i64 (s : Int) (wrap64 (2 ^ x)) = ((s ||| 1 <<< x : Nat) : Int) := by decide +kernel
  exact hd s hs x hx
/-- charged by one due up to a channel -/
def PartH (cur : List Int) (cs : List Ch) (sg : Nat) (cl : List Int) (t : Nat) (py : Int) : Prop := cl.length = cs.length ∧ ∀ i : Nat, i < cs.length → cl.getD i 0 = cur.getD i 0 + if i < t ∧ leavesS sg (cs.getD i (0, 0, 0)) = true then py else 0
theorem PartH.skip {cur : List Int} {cs : List Ch} {sg : Nat} {cl : List Int} {t : Nat} {py : Int} (h : PartH cur cs sg cl t py) (hl : leavesS sg (cs.getD t (0, 0, 0)) = false) : PartH cur cs sg cl (t + 1) py := by
  refine ⟨h.1, fun i hi => ?_⟩
  rw [h.2 i hi]
  congr 1
  by_cases e : i = t
  · subst e; rw [if_neg (by omega), if_neg (by rw [hl]; simp)]
  · by_cases h2 : i < t
    · simp [h2, show i < t + 1 by omega]
    · simp [h2, show ¬ i < t + 1 by omega]
theorem PartH.step {cur : List Int} {cs : List Ch} {sg : Nat} {cl : List Int} {t : Nat} {py : Int} (h : PartH cur cs sg cl t py) (ht : t < cs.length) (hl : leavesS sg (cs.getD t (0, 0, 0)) = true) : PartH cur cs sg (cl.set t (cl.getD t 0 + py)) (t + 1) py := by
  refine ⟨by rw [List.length_set]; exact h.1, fun i hi => ?_⟩
  have hcl := h.1
  by_cases e : i = t
  · subst e
    rw [getD_eq _ i 0 (by rw [List.length_set]; omega), List.getElem_set_self, h.2 i hi, if_neg (by omega), if_pos ⟨by omega, hl⟩]
    omega
  · rw [getD_eq _ i 0 (by rw [List.length_set]; omega), List.getElem_set_ne (by omega), ← getD_eq cl i 0 (by omega), h.2 i hi]
    congr 1
    by_cases h2 : i < t
    · simp [h2, show i < t + 1 by omega]
    · simp [h2, show ¬ i < t + 1 by omega]
theorem PartH.full {cs : List Ch} {ds : List Du} {j : Nat} {cl : List Int} (hj : j < ds.length) (h : PartH (chargeS cs (ds.take j)) cs (setS (ds.getD j ([], 0)).1) cl cs.length (ds.getD j ([], 0)).2) : cl = chargeS cs (ds.take (j + 1)) := by
  obtain ⟨h1, h2⟩ := h
  apply List.ext_getElem
  · rw [h1]; simp [chargeS]
  · intro i hi hi2
    have hic : i < cs.length := by omega
    have h3 := h2 i hic
    rw [getD_eq cl i 0 hi] at h3
    rw [h3]
    have e1 : (chargeS cs (ds.take j)).getD i 0 = chargeOne (ds.take j) cs[i] := by
      rw [getD_eq _ i 0 (by simp [chargeS]; omega)]; simp [chargeS_eq]
    have e2 : (chargeS cs (ds.take (j + 1)))[i] = chargeOne (ds.take (j + 1)) cs[i] := by simp [chargeS_eq]
    rw [e1, e2, charge_step ds j hj, getD_eq cs i (0, 0, 0) hic]
    by_cases hlv : leavesS (setS (ds.getD j ([], 0)).1) cs[i] = true
    · rw [if_pos hlv, if_pos ⟨hic, hlv⟩]
    · rw [if_neg hlv, if_neg (fun h => hlv h.2)]
      omega
set_option maxRecDepth 100000 in
set_option maxHeartbeats 8000000 in
theorem paid_any (n : Nat) (q : Option Addr) (cap : Nat) (cs : List Ch) (q2 : Option Addr) (c2 : Nat) (vs : List Value) (ds : List Du) (w : World) (hc : Chs n cs) (hr : RowV w q (flatT cs)) (hd : DuesAt w q2 vs ds) (hl : ds.length ≤ 20) (hv : ∀ d ∈ ds, grErr n d.1 = 0 ∧ 1 ≤ d.2 ∧ d.2 ≤ 280) :
    Calls Tryz.prog 19 #[hillV n q cs.length cap, .slice q2 ds.length c2] w fun e w' => ∃ qc, e = .returned (.tuple #[.int .i64 (ds.foldl (fun k d => k + d.2) 0), .slice qc cs.length cs.length, .bool true]) ∧ RowV w' qc (flatI (chargeS cs ds)) ∧ Below w.heap.size w w' := by
  unfold hillV
  have hb0 : Below w.heap.size w (w.alloc (.cells #[.int .i64 n, .slice q cs.length cap] 28)) := (Below.refl _ _).alloc (Nat.le_refl _) _
  have hr0 := hr.below (Nat.le_refl _) hb0
  have hd0 := hd.below (Nat.le_refl _) hb0
  have hcm := hc.many
  have HB := Lib.hid hb0
  have HC := Lib.hid hc
  have HV := Lib.hid hv
  have HD := Lib.hid hd0
  have HR := Lib.hid hr0
  clear hb0 hr hc hd hv hr0 hd0
  go_enter Tryz.func19, Tryz.ntmps19
  go_upto_region 1 with fail
  have hb0 := HB.out
  obtain ⟨W0, hW0⟩ : ∃ W0, w.alloc (.cells #[.int .i64 n, .slice q cs.length cap] 28) = W0 := ⟨_, rfl⟩
  have hcell : W0.cell? ⟨w.heap.size, 0, none⟩ = some (.int .i64 n) ∧ W0.cell? ⟨w.heap.size, 1, none⟩ = some (.slice q cs.length cap) := by rw [← hW0]; simp
  have hzz : w.heap.size < W0.heap.size := by rw [← hW0]; simp
  rw [hW0] at HR HD hb0 ⊢
  have hc0 := hcell.1
  have hc1 := hcell.2
  clear hW0 HB hcell
  obtain ⟨B, hB⟩ : ∃ B, w.heap.size = B := ⟨_, rfl⟩
  rw [hB] at hc0 hc1 hzz hb0 ⊢
  have HBW := Lib.hid hB
  clear hB
  obtain ⟨w1, hrun, hown1, hb1⟩ := run_ints W0.drew cs.length (by omega)
  go_region
  have hbw : Below W0.heap.size W0 w1 := ((Below.refl W0.heap.size W0).drew).trans hb1
  have hown2 : w1.ownsRow W0.heap.size 3 1 (.slice (some ⟨W0.heap.size, 0, none⟩) cs.length cs.length) cs.length (flatI (chargeS cs (ds.take 0))) := by rw [List.take_zero, charge_nil]; exact hown1
  obtain ⟨G, hG⟩ : ∃ G, W0.heap.size = G := ⟨_, rfl⟩
  have HGW := Lib.hid hG
  rw [hG] at hbw hown2 hzz ⊢
  clear hrun hown1 hb1 hG
  go_wp2
  go_loopw [7, 23] (fun v i wr => ∃ j : Nat, j ≤ ds.length ∧ i = .int .i64 j ∧ v = .int .i64 ((ds.take j).foldl (fun k d => k + d.2) 0) ∧ Hid (wr.ownsRow G 3 1 (.slice (some ⟨G, 0, none⟩) cs.length cs.length) cs.length (flatI (chargeS cs (ds.take j)))) ∧ Below G W0 wr) (fun _ i _ => ds.length - (intOf i).toNat)
  case atStart => exact ⟨0, Nat.zero_le _, rfl, rfl, Lib.hid hown2, hbw⟩
  case round =>
    obtain ⟨j, hj, rfl, rfl, HO, hbel⟩ := hrel
    by_cases hlt : j < ds.length
    · obtain ⟨b, off, qg, cg, rfl, hb, g1, g2, g3⟩ := (HD.out.below (by rw [HGW.out]; exact Nat.le_refl _) hbel).at hlt
      have hok := HV.out _ (getD_mem ds j ([], 0) hlt)
      have hfull := fun cl h => PartH.full (cs := cs) (cl := cl) hlt h
      have hsum := foldl_take (fun (k : Int) (d : Du) => k + d.2) 0 ds j ([], 0) hlt
      have hsb : ∀ l : List Du, (∀ d ∈ l, 1 ≤ d.2 ∧ d.2 ≤ 280) → ∀ k : Int, k ≤ l.foldl (fun k d => k + d.2) k ∧ l.foldl (fun k d => k + d.2) k ≤ k + 280 * l.length := by
        intro l
        induction l with
        | nil => intro _ k; simp
        | cons d l ih =>
          intro hh k
          have h1 := hh d (by simp)
          have h2 := ih (fun x hx => hh x (by simp [hx])) (k + d.2)
          simp only [List.foldl_cons, List.length_cons]
          omega
      have hs1 := hsb (ds.take j) (fun d hd => (HV.out d (List.mem_of_mem_take hd)).2) 0
      have hln : (ds.take j).length ≤ 20 := by rw [List.length_take]; omega
      generalize (ds.take j).foldl (fun k d => k + d.2) 0 = sum at hsum hs1 ⊢
      generalize ds.getD j ([], 0) = d at g1 g2 g3 hok hfull hsum
      obtain ⟨gr, py⟩ := d
      dsimp only at *
      obtain ⟨hgr, hp1, hp2⟩ := hok
      obtain ⟨hgb, hgs⟩ := setS_bd hgr
      have hne : gr.length ≠ 0 := by intro h; unfold grErr at hgr; rw [if_pos h] at hgr; cases hgr
      have hg6 : gr.length ≤ 6 := Nat.le_trans (sorted_le hgb hgs) HC.out.n6
      have hn6 := HC.out.n6
      have f0 : ((gr.length : Int) == 0) = false := beq_eq_false_iff_ne.2 (by omega)
      have hzr := hbel.size
      have hGD := (HO.out.lt G rfl).2
      have hbA : Below wr.heap.size wr (wr.alloc (.cells #[.slice qg gr.length cg, .int .i64 py] 56)) := (Below.refl _ _).alloc (Nat.le_refl _) _
      have hbA2 : Below G W0 (wr.alloc (.cells #[.slice qg gr.length cg, .int .i64 py] 56)) := hbel.alloc (by omega) _
      have hown3 := owns_below HO.out (Nat.le_refl _) hbA
      have hsl : ∀ k, setS (gr.take k) < 64 := fun k => pow_64 hn6 (setS_lt hn6 (fun x hx => hgb x (List.mem_of_mem_take hx)))
      have hst : ∀ k, k < gr.length → setS (gr.take (k + 1)) = setS (gr.take k) ||| 1 <<< (gr.getD k 0).toNat := fun k hk => foldl_take (fun (s : Nat) (g : Int) => s ||| 1 <<< g.toNat) 0 gr k 0 hk
      have hdr : ∀ k, k < gr.length → ∀ y ∈ gr.drop (k + 1), gr.getD k 0 < y := fun k hk y hy => by
        have h1 := List.Pairwise.drop (i := k) hgs
        rw [List.drop_eq_getElem_cons hk, List.pairwise_cons] at h1
        rw [getD_eq gr k 0 hk]
        exact h1.1 y hy
      have hin : ∀ k, k < gr.length → gr.getD k 0 ∈ gr.drop k := fun k hk => by
        have h := List.drop_eq_getElem_cons hk
        rw [getD_eq gr k 0 hk, h]
        exact List.mem_cons_self
      have hbd : ∀ i, i < cs.length → 0 ≤ (chargeS cs (ds.take j)).getD i 0 ∧ (chargeS cs (ds.take j)).getD i 0 ≤ 5600 := by
        intro i hi
        have e1 : (chargeS cs (ds.take j)).getD i 0 = chargeOne (ds.take j) cs[i] := by
          rw [getD_eq _ i 0 (by simp [chargeS]; omega)]; simp [chargeS_eq]
        have := charge_bd cs[i] (ds.take j) (fun d hd => (HV.out d (List.mem_of_mem_take hd)).2)
        rw [e1]
        omega
      have hcurl : (chargeS cs (ds.take j)).length = cs.length := by simp [chargeS]
      have HBD := Lib.hid hbd
      have HCU := Lib.hid hcurl
      clear hbd hcurl
      have HFU := Lib.hid hfull
      have HSUM := Lib.hid hsum
      have HSL := Lib.hid hsl
      have HST := Lib.hid hst
      have HDR := Lib.hid hdr
      have HIN := Lib.hid hin
      have HGB := Lib.hid hgb
      have HBA := Lib.hid hbA
      have HB2 := Lib.hid hbA2
      have HO3 := Lib.hid hown3
      have g3w := Lib.hid (g3.below (Nat.le_refl _) hbA)
      clear hfull hsum hsl hst hdr hin hgb hgs hgr g3 HO hown2 hbA hbA2 hown3
      go_upto_region 5 with fail
      obtain ⟨W2, hW2⟩ : ∃ W2, wr.alloc (.cells #[.slice qg gr.length cg, .int .i64 py] 56) = W2 := ⟨_, rfl⟩
      obtain ⟨D, hD⟩ : ∃ D, wr.heap.size = D := ⟨_, rfl⟩
      have k0 : W2.cell? ⟨D, 0, none⟩ = some (.slice qg gr.length cg) := by rw [← hW2, ← hD]; simp
      have k1 : W2.cell? ⟨D, 1, none⟩ = some (.int .i64 py) := by rw [← hW2, ← hD]; simp
      have kz : D < W2.heap.size := by rw [← hW2, ← hD]; simp
      rw [hW2] at HBA HB2 HO3 g3w ⊢
      rw [hD] at hGD hzr HBA ⊢
      have kb0 := (HB2.out.cell (p := ⟨B, 0, none⟩) (by show B < G; omega)).trans hc0
      have kb1 := (HB2.out.cell (p := ⟨B, 1, none⟩) (by show B < G; omega)).trans hc1
      clear hW2 g1 g2
      go_wp2
      go_loop [11, 12, 44] (fun s l i => ∃ (k : Nat) (lst : Int), k ≤ gr.length ∧ i = .int .i64 k ∧ l = .int .i64 lst ∧ s = .int .i64 (setS (gr.take k) : Nat) ∧ Hid (∀ x ∈ gr.drop k, lst < x)) (fun _ _ i => gr.length - (intOf i).toNat)
      case atStart => exact ⟨0, -1, Nat.zero_le _, rfl, rfl, rfl, Lib.hid (fun x hx => by have := (HGB.out x hx).1; omega)⟩
      case round =>
        obtain ⟨k, lst, hk, rfl, rfl, rfl, HL⟩ := hrel
        by_cases hkl : k < gr.length
        · obtain ⟨b2, off2, rfl, hb2, r1⟩ := rowI_at g3w.out hkl (Nat.le_refl _) (Below.refl _ _)
          have hx := HGB.out _ (getD_mem gr k 0 hkl)
          have hlx := HL.out _ (HIN.out k hkl)
          have HS1 := Lib.hid (HST.out k hkl)
          have HD1 := Lib.hid (HDR.out k hkl)
          have hs64 := HSL.out k
          generalize gr.getD k 0 = x at r1 hx hlx HS1 HD1
          generalize setS (gr.take k) = s at hs64 HS1 ⊢
          obtain ⟨x, rfl⟩ : ∃ m : Nat, x = m := ⟨x.toNat, by omega⟩
          have hx6 : x < 6 := by omega
          have hlx2 : ¬ (x : Int) ≤ lst := by omega
          have hxn : (x : Int) < (n : Int) := hx.2
          have hxnn : ¬ n ≤ x := by omega
          have hki : (k : Int) < (gr.length : Int) := by omega
          have hor := or_i s x hs64 hx6
          clear hx
          have HOR := Lib.hid hor
          clear hor
          go_wp2
          go_round
          case rel => exact ⟨k + 1, x, hkl, by go_num, rfl, by rw [HS1.out, Int.toNat_natCast, ← HOR.out], Lib.hid HD1.out⟩
          case measure => simp [intOf]; omega
        · obtain rfl : k = gr.length := by omega
          rw [List.take_length]
          have hsg := HSL.out gr.length
          rw [List.take_length] at hsg
          have hw16 : IntKind.i64.wrap (sum + py) = sum + py := IntWalk.i64_in _ ⟨by omega, by omega⟩
          generalize setS gr = sg at hsg HFU ⊢
          generalize chargeS cs (ds.take j) = cur at HFU HBD HCU HO3
          clear HSL HST HDR HIN HGB f0
          go_wp2
          go_loopw [70] (fun i wl => ∃ (t : Nat) (cl : List Int), t ≤ cs.length ∧ i = .int .i64 t ∧ Hid (wl.ownsRow G 3 1 (.slice (some ⟨G, 0, none⟩) cs.length cs.length) cs.length (flatI cl)) ∧ Hid (PartH cur cs sg cl t py) ∧ Hid (wl.cell? ⟨D, 1, none⟩ = some (.int .i64 py)) ∧ D < wl.heap.size ∧ Below G W0 wl) (fun i _ => cs.length - (intOf i).toNat)
          case atStart => exact ⟨0, cur, Nat.zero_le _, rfl, HO3, Lib.hid ⟨HCU.out, fun i hi => by simp⟩, Lib.hid k1, kz, HB2.out⟩
          case round =>
            obtain ⟨t, cl, ht, rfl, HO, HP, HY, hzl, hbl⟩ := hrel
            by_cases htl : t < cs.length
            · obtain ⟨b3, off3, rfl, hb3, g1, g2, g3⟩ := rowT_at HR.out htl (by rw [HGW.out]; exact Nat.le_refl _) hbl
              have hok := getD_ok HC.out.ok htl
              have hsk := fun h => HP.out.skip (t := t) h
              have hsp := fun h => HP.out.step (t := t) htl h
              have hval := HP.out.2 t htl
              rw [if_neg (by omega)] at hval
              have hb1 := HBD.out t htl
              have hcll := HP.out.1
              generalize cs.getD t (0, 0, 0) = c at g1 g2 g3 hok hsk hsp
              obtain ⟨c1, c2, c3⟩ := c
              obtain ⟨h1, h2, h3⟩ := hok
              obtain ⟨a, rfl⟩ : ∃ a : Nat, c1 = a := ⟨c1.toNat, by simp at h1; omega⟩
              obtain ⟨d, rfl⟩ : ∃ d : Nat, c2 = d := ⟨c2.toNat, by simp at h2; omega⟩
              have ha : a < 6 := by have := HC.out.n6; simp at h1; omega
              have hd : d < 7 := by have := HC.out.n6; simp at h2; omega
              have f1 := bit_i sg a hsg
              have f2 := bit_i0 sg d hsg
              have hlv : leavesS sg ((a : Int), (d : Int), c3) = (sg.testBit a && !sg.testBit d) := by
                unfold leavesS inS
                simp
              rw [hlv] at hsk hsp
              have hti : (t : Int) < (cs.length : Int) := by omega
              have hbC : Below wr.heap.size wr (wr.alloc (.cells #[.int .i64 (a : Int), .int .i64 (d : Int), .int .i64 c3] 49)) := (Below.refl _ _).alloc (Nat.le_refl _) _
              have hGl := (HO.out.lt G rfl).2
              have hbC2 : Below G W0 (wr.alloc (.cells #[.int .i64 (a : Int), .int .i64 (d : Int), .int .i64 c3] 49)) := hbl.alloc (by omega) _
              have HOC := Lib.hid (owns_below HO.out (Nat.le_refl _) hbC)
              have HYC := Lib.hid ((hbC.cell (p := ⟨D, 1, none⟩) hzl).trans HY.out)
              have HSK := Lib.hid hsk
              have HSP := Lib.hid hsp
              clear hsk hsp hlv h1 h2 h3 HP HO HY HFU
              go_upto_region 20 with fail
              obtain ⟨WA, hWA⟩ : ∃ WA, wr.alloc (.cells #[.int .i64 (a : Int), .int .i64 (d : Int), .int .i64 c3] 49) = WA := ⟨_, rfl⟩
              have s0 : WA.cell? ⟨wr.heap.size, 0, none⟩ = some (.int .i64 (a : Int)) := by rw [← hWA]; simp
              have s1 : WA.cell? ⟨wr.heap.size, 1, none⟩ = some (.int .i64 (d : Int)) := by rw [← hWA]; simp
              have sz : wr.heap.size < WA.heap.size := by rw [← hWA]; simp
              have sb1 := (hbC2.cell (p := ⟨B, 1, none⟩) (by show B < G; omega)).trans hc1
              rw [hWA] at HOC HYC hbC2 sb1 ⊢
              clear hWA g1 g2 g3
              cases hp : sg.testBit a with
              | false =>
                rw [hp] at f1 HSK
                have HQ := Lib.hid (HSK.out rfl)
                go_wp2
                go_roundw
                case rel => exact ⟨t + 1, cl, htl, by go_num, HOC, HQ, HYC, by omega, hbC2⟩
                case measure => simp [intOf]; omega
              | true =>
                rw [hp] at f1 HSK HSP
                cases hq : sg.testBit d with
                | true =>
                  rw [hq] at f2 HSK
                  have HQ := Lib.hid (HSK.out rfl)
                  go_wp2
                  go_roundw
                  case rel => exact ⟨t + 1, cl, htl, by go_num, HOC, HQ, HYC, by omega, hbC2⟩
                  case measure => simp [intOf]; omega
                | false =>
                  rw [hq] at f2 HSP
                  have HQ := Lib.hid (HSP.out rfl)
                  go_upto_region 21 with fail
                  have ho := HOC.out
                  have hce := ho.cellAt t (by omega)
                  rw [flatI_get cl t (by omega)] at hce
                  have hfz := ho.frozenAt t
                  have hst := ho.stored t (.int .i64 (cl.getD t 0 + py))
                  rw [flatI_set] at hst
                  have hcx : 0 ≤ cl.getD t 0 ∧ cl.getD t 0 ≤ 5600 := by rw [hval]; omega
                  generalize cl.getD t 0 = cx at hce hst hcx HQ
                  have hw : IntKind.i64.wrap (cx + py) = cx + py := IntWalk.i64_in _ ⟨by omega, by omega⟩
                  have hyc := HYC.out
                  have hDG : D ≠ G := by omega
                  have hpay2 := hst.2.cell hyc (by intro e; injection e with e; first | exact hDG e | exact hDG e.symm)
                  have hbl2 := hbC2.grown hst.2 (by omega) (fun k hk => by injection hk with hk; omega)
                  have HST := Lib.hid hst.1
                  have HPAY2 := Lib.hid hpay2
                  have HBL2 := Lib.hid hbl2
                  clear hst hpay2 hbl2 ho hcx
                  go_region
                  go_wp2
                  go_roundw
                  case rel => exact ⟨t + 1, _, htl, by go_num, Lib.hid HST.out.drew, HQ, Lib.hid HPAY2.out, by simp; omega, HBL2.out.drew⟩
                  case measure => simp [intOf]; omega
            · obtain rfl : t = cs.length := by omega
              have hcl := HFU.out cl HP.out
              subst hcl
              go_wp2
              go_roundw
              case rel => exact ⟨j + 1, hlt, by go_num, by rw [HSUM.out], HO, hbl⟩
              case measure => simp [intOf]; omega
    · obtain rfl : j = ds.length := by omega
      have hO := HO.out
      rw [List.take_length] at hO
      have hlen : (chargeS cs ds).length = cs.length := by simp [chargeS]
      obtain ⟨q9, c9, e9, hr9⟩ := own_form hO (by intro h; rw [List.length_eq_zero_iff.1 (show (chargeS cs ds).length = 0 by omega)]; rfl)
      injection e9 with e1 _ e2
      subst e1
      have HR9 := Lib.hid hr9
      have HBF := Lib.hid (show Below w.heap.size w wr by rw [HBW.out]; exact hb0.trans (hbel.mono (by omega)))
      rw [List.take_length]
      clear hO hr9 hlen e2
      go_wp2
      go_ret3
      exact ⟨some ⟨G, 0, none⟩, rfl, HR9.out, HBF.out⟩
end Go.Proofs.YtlnpibboemphnaaGreat.drn

/- The dues of a hill without a trap: each is one of the hill, and there are not more than channels. -/
namespace Go.Proofs.YtlnpibboemphnaaGreat.drn
theorem groupErr_up {n : Nat} : ∀ (l : List Int) (b : Option Int), (∀ x ∈ l, 0 ≤ x ∧ x < n) → l.Pairwise (· < ·) → (∀ x, b = some x → ∀ y ∈ l, x < y) → groupErr n b l = 0
  | [], _, _, _, _ => rfl
  | g :: r, b, h1, h2, h3 => by
    rw [List.pairwise_cons] at h2
    unfold groupErr
    have hg := h1 g (by simp)
    rw [if_neg (by rw [(isGal_iff _ _).2 hg]; simp), if_neg ?_]
    · exact groupErr_up r (some g) (fun x hx => h1 x (by simp [hx])) h2.2 fun x hx y hy => by injection hx with hx; subst hx; exact h2.1 y hy
    · cases b with
      | none => simp [notUp]
      | some x => have := h3 x rfl g (by simp); simp [notUp]; omega
theorem listS_up (s : Nat) : (listS s).Pairwise (· < ·) := by
  unfold listS
  rw [List.pairwise_map]
  refine (List.Pairwise.sublist List.filter_sublist List.pairwise_lt_range).imp ?_
  intro a b h; omega
theorem listS_in {n s : Nat} (hs : s < 2 ^ n) : ∀ x ∈ listS s, 0 ≤ x ∧ x < n := by
  intro x hx
  unfold listS at hx
  obtain ⟨i, hi, rfl⟩ := List.mem_map.1 hx
  have hb := (List.mem_filter.1 hi).2
  refine ⟨by omega, ?_⟩
  by_cases h : i < n
  · omega
  · rw [Nat.testBit_lt_two_pow (Nat.lt_of_lt_of_le hs (Nat.pow_le_pow_right (by decide) (by omega)))] at hb
    cases hb
theorem gr_listS {n s : Nat} (hn : n ≤ 6) (h0 : s ≠ 0) (hs : s < 2 ^ n) : grErr n (listS s) = 0 := by
  unfold grErr
  rw [if_neg ?_]
  · exact groupErr_up _ none (listS_in hs) (listS_up s) (by simp)
  · obtain ⟨j, hj⟩ := bit_of_ne h0
    have hj6 : j < 6 := by
      by_cases h : j < 6
      · exact h
      · rw [Nat.testBit_lt_two_pow (Nat.lt_of_lt_of_le hs (Nat.pow_le_pow_right (by decide) (by omega)))] at hj
        cases hj
    intro e
    have : (j : Int) ∈ listS s := List.mem_map.2 ⟨j, List.mem_filter.2 ⟨List.mem_range.2 hj6, hj⟩, rfl⟩
    rw [List.length_eq_zero_iff.1 e] at this
    simp at this
theorem dues_each {n : Nat} : ∀ (f : Nat) {cs : List Ch}, Chs n cs → wetS n cs = allS n → (∀ d ∈ duesF n f cs, grErr n d.1 = 0 ∧ 1 ≤ d.2 ∧ d.2 ≤ 20) ∧ (duesF n f cs).length + zeros cs ≤ cs.length
  | 0, cs, _, _ => ⟨by simp [duesF], by have := zeros_le cs; simpa [duesF] using this⟩
  | f + 1, cs, hc, hw => by
    cases hp : payerS n cs with
    | none => rw [duesF_done hp]; exact ⟨by simp, by have := zeros_le cs; simpa using this⟩
    | some s =>
      rw [duesF_step hp]
      obtain ⟨hs, hsp⟩ := payer_in hp
      obtain ⟨s0, s1⟩ := mem_groups.1 hs
      have hex := leaves_some hc hw hs
      obtain ⟨⟨c, hcm, hcl, hck⟩, hle⟩ := least_of (cs := cs) (s := s) (fun c h => ⟨(hc.ok c h).2.2.2.1, (hc.ok c h).2.2.2.2⟩) hex
      have hk0 : 0 < leastLeft cs s := by
        have h0 := (hc.ok c hcm).2.2.2.1
        have : c.2.2 ≠ 0 := by
          intro e
          rw [List.any_eq_false] at hsp
          have := hsp c hcm
          unfold spentC at this
          rw [hcl, e] at this
          simp at this
        omega
      have hk20 : leastLeft cs s ≤ 20 := by have := (hc.ok c hcm).2.2.2.2; omega
      have hz := least_pays hk0 hsp ⟨c, hcm, hcl, hck⟩
      obtain ⟨k1, k2⟩ := dues_each f (take_ok hc hex) (by rw [wet_take]; exact hw)
      have hlen : (takeLeft cs s (leastLeft cs s)).length = cs.length := by unfold takeLeft; simp
      refine ⟨fun d hd => ?_, by rw [List.length_cons]; omega⟩
      rcases List.mem_cons.1 hd with rfl | hd
      · exact ⟨gr_listS hc.n6 s0 s1, hk0, hk20⟩
      · exact k1 d hd
end Go.Proofs.YtlnpibboemphnaaGreat.drn

/- What dues prove of a cheapest plan, plainly (for DrainShown). -/
namespace Go.Proofs.YtlnpibboemphnaaGreat.drn
open Go.RowKit
set_option linter.unusedSimpArgs false
set_option linter.unusedVariables false
theorem dsErr_zero {n : Int} : ∀ {ds : List Du}, (∀ d ∈ ds, grErr n d.1 = 0 ∧ 1 ≤ d.2 ∧ d.2 ≤ 280) → dsErr n ds = 0
  | [], _ => rfl
  | d :: r, h => by
    obtain ⟨h1, h2, h3⟩ := h d (by simp)
    rw [dsErr, if_neg (fun k => k h1), if_neg (by omega)]
    exact dsErr_zero fun x hx => h x (by simp [hx])
theorem duErr_zero {n : Int} {ds : List Du} (hl : ds.length ≤ 20) (h : ∀ d ∈ ds, grErr n d.1 = 0 ∧ 1 ≤ d.2 ∧ d.2 ≤ 280) : duErr n ds = 0 := by
  unfold duErr
  rw [if_neg (by omega), dsErr_zero h]
/-- dues of groups against a plan of the hill -/
theorem proves_plan {n : Nat} {cs : List Ch} (hc : Chs n cs) (h0 : errD n cs = 0) {p : List Int} (hp : p ∈ plansS n cs) {ds : List Du} (hd : duErr n ds = 0) :
    provesOf n cs p ds = if (List.zip (chargeS cs ds) cs).any (fun x => decide (x.2.2.2 < x.1)) then 15 else if ds.foldl (fun k d => k + d.2) 0 ≠ costS cs p then 14 else 0 := by
  have hv : validOf n cs p = 0 := (validOf_iff h0 p).2 ((mem_plansS hc.n1 hc.ok p).1 hp)
  unfold provesOf
  rw [if_neg (fun h => h hv), if_neg (fun h => h hd)]
/-- a channel that is charged too much, by numbers -/
theorem over_iff (cs : List Ch) (ds : List Du) : ((List.zip (chargeS cs ds) cs).any (fun x => decide (x.2.2.2 < x.1)) = true) ↔ ∃ i, i < cs.length ∧ (cs.getD i (0, 0, 0)).2.2 < (chargeS cs ds).getD i 0 := by
  have hl : (chargeS cs ds).length = cs.length := by simp [chargeS]
  rw [List.any_eq_true]
  constructor
  · rintro ⟨x, hx, h⟩
    obtain ⟨i, hi, rfl⟩ := List.getElem_of_mem hx
    have hi2 : i < cs.length := by rw [List.length_zip] at hi; omega
    refine ⟨i, hi2, ?_⟩
    rw [List.getElem_zip] at h
    rw [getD_eq cs i (0, 0, 0) hi2, getD_eq (chargeS cs ds) i 0 (by omega)]
    simpa using h
  · rintro ⟨i, hi, h⟩
    have hz : i < (List.zip (chargeS cs ds) cs).length := by rw [List.length_zip]; omega
    refine ⟨(List.zip (chargeS cs ds) cs)[i], List.getElem_mem hz, ?_⟩
    rw [List.getElem_zip]
    rw [getD_eq cs i (0, 0, 0) hi, getD_eq (chargeS cs ds) i 0 (by omega)] at h
    simpa using h
end Go.Proofs.YtlnpibboemphnaaGreat.drn

/- Package drain: the channels of a plan: one from each gallery. -/
namespace Go.Proofs.YtlnpibboemphnaaGreat.drn
theorem ext_each {n : Nat} {cs : List Ch} (hc : ∀ c ∈ cs, ChOk n c) : ∀ (l : List Int) (lo s : Nat), Ext cs lo s l →
    (∀ x ∈ l, inS s (frm cs x) = false) ∧ (l.Pairwise fun x y => frm cs x ≠ frm cs y) ∧ ∀ g : Nat, inS (addS cs s l) g = true ↔ inS s g = true ∨ ∃ x ∈ l, frm cs x = g
  | [], _, _, _ => ⟨by simp, by simp, fun g => by simp [addS]⟩
  | x :: r, lo, s, ⟨⟨h1, h2⟩, h3, h4⟩ => by
    obtain ⟨k1, k2, k3⟩ := ext_each hc r _ _ h4
    have hok := getD_ok hc (i := x.toNat) (by omega)
    have hf0 : 0 ≤ frm cs x := hok.1.1
    have ef : (((frm cs x).toNat : Nat) : Int) = frm cs x := by omega
    have hsplit : ∀ y ∈ r, inS s (frm cs y) = false ∧ frm cs y ≠ frm cs x := by
      intro y hy
      have h := k1 y hy
      rw [inS_or, Bool.or_eq_false_iff] at h
      refine ⟨h.1, fun e => ?_⟩
      have h5 := h.2
      have h6 := inS_one (frm cs x).toNat (frm cs x).toNat
      rw [ef] at h6
      rw [e, h6] at h5
      simp at h5
    refine ⟨fun y hy => ?_, List.pairwise_cons.2 ⟨fun y hy e => (hsplit y hy).2 e.symm, k2⟩, fun g => ?_⟩
    · rcases List.mem_cons.1 hy with rfl | hy
      · exact h3
      · exact (hsplit y hy).1
    · have e : addS cs s (x :: r) = addS cs (s ||| 1 <<< (frm cs x).toNat) r := rfl
      rw [e, k3, inS_or, Bool.or_eq_true, inS_one, decide_eq_true_eq]
      constructor
      · rintro ((h | h) | ⟨y, hy, h⟩)
        · exact .inl h
        · exact .inr ⟨x, by simp, by omega⟩
        · exact .inr ⟨y, by simp [hy], h⟩
      · rintro (h | ⟨y, hy, h⟩)
        · exact .inl (.inl h)
        · rcases List.mem_cons.1 hy with rfl | hy
          · exact .inl (.inr (by omega))
          · exact .inr ⟨y, hy, h⟩
theorem plan_each {n : Nat} {cs : List Ch} (hc : ∀ c ∈ cs, ChOk n c) {l : List Int} (h : Plan n cs l) : OneEach n (chosenS cs l) := by
  obtain ⟨h1, h2, _⟩ := h
  have hin : ∀ x ∈ l, 0 ≤ x ∧ x < cs.length := by
    have : ∀ (l : List Int) (lo s : Nat), Ext cs lo s l → ∀ x ∈ l, 0 ≤ x ∧ x < cs.length := by
      intro l
      induction l with
      | nil => simp
      | cons y r ih =>
        rintro lo s ⟨⟨a, b⟩, _, c⟩ x hx
        rcases List.mem_cons.1 hx with rfl | hx
        · exact ⟨by omega, b⟩
        · exact ih _ _ c x hx
    exact this l 0 0 h1
  obtain ⟨_, k2, k3⟩ := ext_each hc l 0 0 h1
  refine ⟨fun c hm => ?_, fun g hg => ?_, ?_⟩
  · obtain ⟨i, hi, rfl⟩ := List.mem_map.1 hm
    exact getD_ok hc (by have := hin i hi; omega)
  · have hall := (allS_iff (n := n) (s := allS n) (by have := Nat.two_pow_pos n; unfold allS; omega)).1 rfl g hg
    rw [← h2] at hall
    rcases (k3 g).1 hall with h | ⟨x, hx, h⟩
    · simp [inS] at h
    · exact ⟨_, List.mem_map.2 ⟨x, hx, rfl⟩, h⟩
  · unfold chosenS
    rw [List.pairwise_map]
    exact k2
end Go.Proofs.YtlnpibboemphnaaGreat.drn

/- Package drain, the walks: wayFrom. -/
namespace Go.Proofs.YtlnpibboemphnaaGreat.drn
open Go.RowKit
set_option linter.unusedSimpArgs false
set_option linter.unusedVariables false

theorem as_mg' (v : Value) (w : World) : (Instr.typeAssert (.iface 156 v) 132 130 true).run Tryz.prog w = .ok (.tuple #[.int .i64 0, .bool false]) w := by kernel_rfl
theorem as_mm' (v : Value) (w : World) : (Instr.typeAssert (.iface 156 v) 132 156 true).run Tryz.prog w = .ok (.tuple #[v, .bool true]) w := by kernel_rfl
theorem as_gg' (v : Value) (w : World) : (Instr.typeAssert (.iface 130 v) 132 130 true).run Tryz.prog w = .ok (.tuple #[v, .bool true]) w := by kernel_rfl
attribute [local go_sem ↓] as_mg' as_mm' as_gg'

theorem nextAt {n : Nat} {ch : List Ch} {xs : List Value} (h : OneEach n ch) (hx : ∀ j, j < ch.length → xs[(ch.getD j (0, 0, 0)).1.toNat]? = some (plV n (ch.getD j (0, 0, 0)).2.1)) (g : Nat) (hg : g < n) : xs[g]? = some (plV n (nextG n ch g)) := by
  obtain ⟨c, hc, e1, e2⟩ := next_mem h hg
  obtain ⟨j, hj, rfl⟩ := List.getElem_of_mem hc
  have := hx j hj
  rw [getD_eq ch j (0, 0, 0) hj, e1] at this
  rw [e2]
  simpa using this

set_option maxRecDepth 100000 in
set_option maxHeartbeats 1000000 in
theorem wayFrom_any (n : Nat) (g : Nat) (q : Option Addr) (cap : Nat) (ch : List Ch) (w : World) (hn : n ≤ 6) (hl : ch.length ≤ 14) (hg : g < n) (ho : OneEach n ch) (hall : ∀ g : Nat, g < n → reach n ch n g = true) (hr : RowV w q (flatC n ch)) :
    Calls Tryz.prog 96 #[plV n g, .slice q ch.length cap] w (RetV w 3 1 (wayF n ch n g).length (flatI (wayF n ch n g))) := by
  have e : plV n g = .iface 130 (.int .i64 g) := by simp only [plV]; rw [if_neg (by omega)]
  have HO := Lib.hid ho
  have HALL := Lib.hid hall
  have HE := Lib.hid e
  rw [e]
  clear ho hall e
  go_enter Tryz.func96, Tryz.ntmps96
  go_wp2
  obtain ⟨W0, hW0⟩ : ∃ W0, w.alloc (.cells #[.nilIface, .nilIface, .nilIface, .nilIface, .nilIface, .nilIface] 155) = W0 := ⟨_, rfl⟩
  have hown0 : W0.ownsRow w.heap.size 155 1 (.slice (some ⟨w.heap.size, 0, none⟩) 6 6) 6 [.nilIface, .nilIface, .nilIface, .nilIface, .nilIface, .nilIface] := by
    rw [← hW0]
    exact World.ownsRow_lit (base := w.heap.size) (e := 155) (size := 1) w #[.nilIface, .nilIface, .nilIface, .nilIface, .nilIface, .nilIface] 6 (Nat.le_refl _) (by decide) rfl
  have hb0 : Below w.heap.size w W0 := by rw [← hW0]; exact (Below.refl _ _).alloc (Nat.le_refl _) _
  rw [hW0]
  clear hW0
  go_loopw [13] (fun i wr => ∃ (k : Nat) (xs : List Value), k ≤ ch.length ∧ i = .int .i64 k ∧ wr.ownsRow w.heap.size 155 1 (.slice (some ⟨w.heap.size, 0, none⟩) 6 6) 6 xs ∧ (∀ j, j < k → xs[(ch.getD j (0, 0, 0)).1.toNat]? = some (plV n (ch.getD j (0, 0, 0)).2.1)) ∧ Below w.heap.size w wr) (fun i _ => ch.length - (intOf i).toNat)
  case atStart => exact ⟨0, _, Nat.zero_le _, rfl, hown0, fun j hj => absurd hj (Nat.not_lt_zero j), hb0⟩
  case round =>
    obtain ⟨k, xs, hk, rfl, hown, hset, hbel⟩ := hrel
    have hxl : xs.length = 6 := hown.1
    have hzw := (hown.lt w.heap.size rfl).2
    by_cases hlt : k < ch.length
    · obtain ⟨b, off, rfl, hb, h1, h2, h3⟩ := rowC_at hr hlt (Nat.le_refl _) hbel
      have hok := HO.out.1 _ (getD_mem ch k (0, 0, 0) hlt)
      have hpw := HO.out.2.2
      have hother : ∀ j, j < k → (ch.getD j (0, 0, 0)).1.toNat ≠ (ch.getD k (0, 0, 0)).1.toNat := by
        intro j hj e
        rw [getD_eq ch j (0, 0, 0) (by omega), getD_eq ch k (0, 0, 0) hlt] at e
        have h4 := List.pairwise_iff_getElem.1 hpw j k (by omega) hlt hj
        have a1 := (HO.out.1 _ (List.getElem_mem (show j < ch.length by omega))).1.1
        have a2 := (HO.out.1 _ (List.getElem_mem hlt)).1.1
        exact h4 (by omega)
      have hset2 : ∀ u : Value, u = plV n (ch.getD k (0, 0, 0)).2.1 → ∀ j, j < k + 1 → (xs.set (ch.getD k (0, 0, 0)).1.toNat u)[(ch.getD j (0, 0, 0)).1.toNat]? = some (plV n (ch.getD j (0, 0, 0)).2.1) := by
        intro u hu j hj
        by_cases hjk : j = k
        · subst hjk
          have := hok.1.2
          rw [List.getElem?_set_self (by have := hok.1.1; omega), hu]
        · rw [List.getElem?_set_ne (fun e => hother j (by omega) e.symm)]
          exact hset j (by omega)
      generalize ch.getD k (0, 0, 0) = c at h1 h2 h3 hok hset2
      obtain ⟨x, y, z⟩ := c
      obtain ⟨⟨x0, x1⟩, _⟩ := hok
      dsimp only at *
      obtain ⟨x, rfl⟩ : ∃ i : Nat, x = i := ⟨x.toNat, by omega⟩
      rw [Int.toNat_natCast] at hset2
      obtain ⟨T, hT⟩ : ∃ T, plV n y = .iface T (.int .i64 y) := ⟨_, rfl⟩
      rw [hT] at h2
      have hs2 := hset2 _ hT.symm
      have hx6 : x < 6 := by omega
      have hxi : (x : Int) < 6 := by omega
      have howa := hown.alloc (.cells #[.int .i64 x, .iface T (.int .i64 y), .int .i64 z] 134)
      have hce := howa.cellAt x (by omega)
      have hfz := howa.frozenAt x
      have hst := hown.stored x (.iface T (.int .i64 y))
      have hxs : (xs[x]?) = some xs[x] := List.getElem?_eq_getElem (by omega)
      rw [hxs] at hce
      have hbA := hbel.grown hst.2 hbel.size (fun k hk => by injection hk with hk; omega)
      have HST := Lib.hid hst.1
      have HS2 := Lib.hid hs2
      have HBA := Lib.hid hbA
      clear hst hs2 hset2 hset hother hpw hown howa hT hbA
      go_wp2
      go_roundw
      case rel => exact ⟨k + 1, _, hlt, by go_num, HST.out.alloc _, HS2.out, HBA.out.alloc HBA.out.size _⟩
      case measure => simp [intOf]; omega
    · obtain rfl : k = ch.length := by omega
      have hnx : ∀ g : Nat, g < n → xs[g]? = some (plV n (nextG n ch g)) := nextAt HO.out hset
      have hr0 := HALL.out g hg
      have HNX := Lib.hid hnx
      have HR0 := Lib.hid hr0
      have HOW := Lib.hid hown
      clear hnx hr0 hset hown hown0 hb0
      obtain ⟨W1, rfl⟩ : ∃ W : World, W = wr := ⟨_, rfl⟩
      go_wp2
      go_loopg [0, 8] n (fun f p v w2 => ∃ (h : Nat) (acc : List Int), h ≤ n ∧ p = plV n h ∧ reach n ch f h = true ∧ acc ++ wayF n ch f h = wayF n ch n g ∧ f + acc.length ≤ n ∧ w2.ownsRow W1.heap.size 3 1 v acc.length (flatI acc) ∧ Below W1.heap.size W1 w2)
      case atStart => exact ⟨g, [], by omega, by rw [HE.out], HR0.out, rfl, by simp, World.ownsRow_nil _ _ _ _, Below.refl _ _⟩
      case round =>
        obtain ⟨h, acc, hhn, rfl, hrch, hacc, hfa, howi, hbel2⟩ := hrel
        have hsz := hbel2.size
        have hal14 : acc.length ≤ 1000 := by omega
        by_cases hh : h = n
        · subst hh
          have e1 : plV h h = .iface 156 (.int .i64 h) := by simp [plV]
          have e2 : wayF h ch gk h = [(h : Int)] := by cases gk <;> simp [wayF]
          rw [e1]
          rw [e2] at hacc
          have HACC := Lib.hid hacc
          have HOI := Lib.hid howi
          clear hacc howi e1 e2 hrch HE
          go_wp2_with (at_builtin; refine app_int _ rfl (.tmp 37) (.tmp 39) rfl W1.heap.size u8 acc (h : Int) rfl (HOI.out.alloc _) wr.heap.size 1 rfl (by simp) (by omega) (by simp; omega) ?_; intro v2 w2 hown2 hgr2 hbk2; have hb2 : Below W1.heap.size W1 w2 := hbel2.trans (((Below.refl _ _).alloc hbel2.size _).trans (grown_below (HOI.out.alloc _) (by simp; omega) hgr2)))
          go_ret
          exact ⟨v2, rfl, by rw [← HACC.out]; exact own_base hown2 hbel.size, hbel.on hb2⟩
        · have hlt : h < n := by omega
          have e1 : plV n h = .iface 130 (.int .i64 h) := by simp only [plV]; rw [if_neg (by omega)]
          have hne : ((h : Int) == (n : Int)) = false := beq_eq_false_iff_ne.2 (by omega)
          obtain ⟨f, rfl⟩ : ∃ f, gk = f + 1 := by
            cases gk with
            | zero => simp only [reach] at hrch; rw [hne] at hrch; cases hrch
            | succ f => exact ⟨f, rfl⟩
          obtain ⟨t, ht, htn⟩ := next_in HO.out hlt
          have hr2 : reach n ch f (t : Int) = true := by
            simp only [reach] at hrch
            rw [hne, Bool.false_or, htn] at hrch
            exact hrch
          have e2 : wayF n ch (f + 1) h = (h : Int) :: wayF n ch f t := by
            have e3 : wayF n ch (f + 1) h = if (h : Int) = n then [(h : Int)] else (h : Int) :: wayF n ch f (nextG n ch h) := rfl
            rw [e3, if_neg (by omega), htn]
          rw [e2] at hacc
          have hcell := HOW.out.cellAt h (by omega)
          rw [HNX.out h hlt, htn] at hcell
          have hzW := (HOW.out.lt w.heap.size rfl).2
          have hcell2 := (hbel2.cell (p := ⟨w.heap.size, h, none⟩) hzW).trans hcell
          have hh6 : (h : Int) < 6 := by omega
          rw [e1]
          have HACC := Lib.hid hacc
          have HOI := Lib.hid howi
          have HR2 := Lib.hid hr2
          clear hacc howi e1 e2 hrch hr2 hcell hne htn HE
          go_wp2_with (at_builtin; refine app_int _ rfl (.tmp 27) (.tmp 29) rfl W1.heap.size u8 acc (h : Int) rfl (HOI.out.alloc _) wr.heap.size 1 rfl (by simp) (by omega) (by simp; omega) ?_; intro v2 w2 hown2 hgr2 hbk2; have hb2 : Below W1.heap.size W1 w2 := hbel2.trans (((Below.refl _ _).alloc hbel2.size _).trans (grown_below (HOI.out.alloc _) (by simp; omega) hgr2)); have hcell3 := (hb2.cell (p := ⟨w.heap.size, h, none⟩) hzW).trans ((hbel2.cell (p := ⟨w.heap.size, h, none⟩) hzW).symm.trans hcell2))
          go_roundg f
          case measure => omega
          case rel => exact ⟨t, acc ++ [(h : Int)], ht, rfl, HR2.out, by rw [← HACC.out]; simp, by simp; omega, hown2, hb2⟩
end Go.Proofs.YtlnpibboemphnaaGreat.drn

