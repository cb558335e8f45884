/- The walk of shortest (package seam): of the shortest lists of indices with which a test is passed the first one. -/
import Derived.Test.YtcalipoknbbaaaaComb
import Derived.Deep.LoopGhost
namespace Go.Proofs.Ytcalipoknbbaaaa
open Go.RowKit

/-- what a test that is handed to shortest has to answer -/
def TestsG (w : World) (pf : Nat) (lb : Array Value) (gs : List Gl) (good : List Gl → List Gl → Bool) : Prop :=
  ∀ (W : World) (xs ys : List Gl) (q1 q2 : Option Addr) (c1 c2 : Nat), Below w.heap.size w W → RowG W q1 xs → RowG W q2 ys → (∀ g ∈ xs, g ∈ gs) → (∀ g ∈ ys, g ∈ gs) → xs.length ≤ gs.length → ys.length ≤ gs.length →
    Calls Try.prog pf (#[.slice q1 xs.length c1, .slice q2 ys.length c2] ++ lb) W fun e W' => e = .returned (.bool (good xs ys)) ∧ Below W.heap.size W W'

theorem sel_mem {α : Type} (b : Bool) (is : List Int) (l : List α) : ∀ x ∈ sel b is l, x ∈ l := by
  intro x hx
  obtain ⟨⟨y, i⟩, hy, rfl⟩ := List.mem_map.1 hx
  have := (List.mem_filter.1 hy).1
  exact (List.mem_zipIdx this).2.2 ▸ List.getElem_mem _
theorem sel_length {α : Type} (b : Bool) (is : List Int) (l : List α) : (sel b is l).length ≤ l.length := by
  rw [← selTo_all]; exact selTo_le b is l l.length

/-- no list of so many indices is good -/
def NoneGood (n k : Nat) (good : List Int → Bool) : Prop := ∀ c ∈ combos n 0 k, good c = false
/-- .. of fewer -/
def NoneBelow (n k : Nat) (good : List Int → Bool) : Prop := ∀ j, j < k → NoneGood n j good
def shortestOf (n : Nat) (good : List Int → Bool) : Option (List Int) := ((List.range (n + 1)).flatMap fun k => combos n 0 k).find? good

theorem shortestOf_hit {n k : Nat} {good : List Int → Bool} (hk : k ≤ n) (hb : NoneBelow n k good) {pre rest : List (List Int)} {c : List Int} (hc : combos n 0 k = pre ++ c :: rest) (hp : ∀ x ∈ pre, good x = false) (hg : good c = true) :
    shortestOf n good = some c := by
  unfold shortestOf
  have h1 : List.range (n + 1) = List.range k ++ (k :: ((List.range (n - k)).map fun j => k + (j + 1))) := by
    rw [show n + 1 = k + ((n - k) + 1) from by omega, List.range_add, List.range_succ_eq_map, List.map_cons, List.map_map]
    rfl
  rw [h1, List.flatMap_append, List.flatMap_cons, List.find?_append, List.find?_eq_none.2 (by
    intro x hx
    obtain ⟨j, hj, hx⟩ := List.mem_flatMap.1 hx
    simp [hb j (List.mem_range.1 hj) x hx]), Option.none_or, hc, List.append_assoc, List.find?_append, List.find?_eq_none.2 (by
    intro x hx; simp [hp x hx]), Option.none_or]
  simp [hg]
theorem shortestOf_miss {n : Nat} {good : List Int → Bool} (hb : NoneBelow n (n + 1) good) : shortestOf n good = none := by
  unfold shortestOf
  rw [List.find?_eq_none]
  intro x hx
  obtain ⟨j, hj, hx⟩ := List.mem_flatMap.1 hx
  simp [hb j (List.mem_range.1 hj) x hx]

/-- what shortest hands back -/
def FoundI (w : World) (o : Option (List Int)) (e : Ending) (w' : World) : Prop :=
  ∃ q cap, e = .returned (.slice q (o.getD []).length cap) ∧ RowI w' q (o.getD []) ∧ Below w.heap.size w w'

/-- the list of indices, while it is filled -/
def filled (k i : Nat) : List Int := upFrom 0 i ++ List.replicate (k - i) 0
theorem filled_length {k i : Nat} (h : i ≤ k) : (filled k i).length = k := by simp [filled, upFrom]; omega
theorem filled_set {k i : Nat} (h : i < k) : (filled k i).set i (i : Int) = filled k (i + 1) := by
  unfold filled
  rw [List.set_append_right _ _ (by rw [upFrom_length]; exact Nat.le_refl _), upFrom_length, Nat.sub_self, show k - i = (k - (i + 1)) + 1 from by omega, List.replicate_succ, List.set_cons_zero]
  have : upFrom 0 (i + 1) = upFrom 0 i ++ [(i : Int)] := by simp [upFrom, List.range_succ]
  rw [this, List.append_assoc]
  rfl
theorem filled_all (k : Nat) : filled k k = upFrom 0 k := by simp [filled]

/-- where the search among the lists of k indices is -/
def SearchAt (n k : Nat) (good : List Int → Bool) (more : Bool) (cur : List Int) (r : Nat) : Prop :=
  (more = true ∧ ∃ pre rest, combos n 0 k = pre ++ cur :: rest ∧ (∀ x ∈ pre, good x = false) ∧ r = rest.length + 1) ∨ (more = false ∧ NoneGood n k good ∧ r = 0)

theorem SearchAt.start {n k : Nat} {good : List Int → Bool} (h : k ≤ n) : ∃ r, SearchAt n k good true (upFrom 0 k) r := by
  obtain ⟨l, hl⟩ := combos_head n 0 k h
  exact ⟨_, .inl ⟨rfl, [], l, hl, by simp, rfl⟩⟩

theorem follows_at {L : Int} : ∀ {pre : List (List Int)} {c : List Int} {rest : List (List Int)}, Follows L (pre ++ c :: rest) → nextI L c = rest.head?
  | [], _, [], h => h
  | [], _, _ :: _, h => h.1
  | [_], _, _, h => follows_at (pre := []) h.2
  | _ :: b :: pre, _, _, h => follows_at (pre := b :: pre) h.2

theorem SearchAt.step {n k : Nat} {good : List Int → Bool} {cur : List Int} {r : Nat} (h : SearchAt n k good true cur r) (hg : good cur = false) :
    ∃ r', r' < r ∧ SearchAt n k good (nextI n cur).isSome ((nextI n cur).getD cur) r' := by
  rcases h with ⟨_, pre, rest, hc, hp, rfl⟩ | ⟨h, _⟩
  · have hf := combos_follows n 0 k
    rw [hc, Int.zero_add] at hf
    have hn := follows_at hf
    rw [hn]
    cases rest with
    | nil =>
      refine ⟨0, by omega, .inr ⟨rfl, ?_, rfl⟩⟩
      intro x hx
      rw [hc] at hx
      rcases List.mem_append.1 hx with hx | hx
      · exact hp x hx
      · obtain rfl : x = cur := by simpa using hx
        exact hg
    | cons d rest =>
      refine ⟨rest.length + 1, by simp, .inl ⟨rfl, pre ++ [cur], rest, by rw [hc]; simp, ?_, rfl⟩⟩
      intro x hx
      rcases List.mem_append.1 hx with hx | hx
      · exact hp x hx
      · obtain rfl : x = cur := by simpa using hx
        exact hg
  · cases h
theorem SearchAt.cur_mem {n k : Nat} {good : List Int → Bool} {cur : List Int} {r : Nat} (h : SearchAt n k good true cur r) : cur ∈ combos n 0 k := by
  rcases h with ⟨_, pre, rest, hc, _⟩ | ⟨h, _⟩
  · rw [hc]; simp
  · cases h
theorem SearchAt.hit {n k : Nat} {good : List Int → Bool} {cur : List Int} {r : Nat} (h : SearchAt n k good true cur r) (hk : k ≤ n) (hb : NoneBelow n k good) (hg : good cur = true) : shortestOf n good = some cur := by
  rcases h with ⟨_, pre, rest, hc, hp, _⟩ | ⟨h, _⟩
  · exact shortestOf_hit hk hb hc hp hg
  · cases h
theorem SearchAt.done {n k : Nat} {good : List Int → Bool} {cur : List Int} {r : Nat} (h : SearchAt n k good false cur r) (hb : NoneBelow n k good) : NoneBelow n (k + 1) good := by
  rcases h with ⟨h, _⟩ | ⟨_, h, _⟩
  · cases h
  · intro j hj
    by_cases e : j = k
    · subst e; exact h
    · exact hb j (by omega)

theorem rowI_at {w : World} {base : Nat} {e : TypeId} {g k cap : Nat} {xs : List Int} (h : w.ownsRow base e 1 (.slice (some ⟨g, 0, none⟩) k cap) k (flatI xs)) (hk : xs.length = k) : RowI w (some ⟨g, 0, none⟩) xs := by
  subst hk
  obtain ⟨q, c, e, hr⟩ := rowI_of_owns h
  simp only [Value.slice.injEq] at e
  rw [e.1]
  exact hr
theorem splitG_at (q qi : Option Addr) (cap capi : Nat) (gs : List Gl) (is : List Int) (w : World) (hr : RowG w q gs) (hi : RowI w qi is) (hl : gs.length ≤ 1000000) (hli : is.length ≤ 1000000) {n k : Nat} (hn : gs.length = n) (hk : is.length = k) :
    Calls Try.prog 112 #[.slice q n cap, .slice qi k capi] w (TwoG w (sel true is gs) (sel false is gs)) := by
  subst hn
  subst hk
  exact splitG_any q qi cap capi gs is w hr hi hl hli
theorem splitP_at (q qi : Option Addr) (cap capi : Nat) (gs : List Pl) (is : List Int) (w : World) (hr : RowP w q gs) (hi : RowI w qi is) (hl : gs.length ≤ 1000000) (hli : is.length ≤ 1000000) {n k : Nat} (hn : gs.length = n) (hk : is.length = k) :
    Calls Try.prog 114 #[.slice q n cap, .slice qi k capi] w (TwoP w (sel true is gs) (sel false is gs)) := by
  subst hn
  subst hk
  exact splitP_any q qi cap capi gs is w hr hi hl hli

theorem follow_at (base g cap : Nat) (is : List Int) (L : Int) (w : World) {k : Nat} (hown : w.ownsRow base 3 1 (.slice (some ⟨g, 0, none⟩) k cap) k (flatI is)) (hg : g < w.heap.size) (hL : small 1000000 L) (hx : ∀ x ∈ is, small 1000000 x) (hl : is.length ≤ 1000000) (hk : is.length = k) :
    Calls Try.prog 145 #[.slice (some ⟨g, 0, none⟩) k cap, .int .i64 L] w (Followed w base g cap L is) := by
  subst hk
  exact follow_any base g cap is L w hown hg hL hx hl

theorem SearchAt.len {n k : Nat} {good : List Int → Bool} {L : Int} {cur : List Int} {r : Nat} (h : SearchAt n k good (nextI L cur).isSome ((nextI L cur).getD cur) r) (hc : cur.length = k) : ((nextI L cur).getD cur).length = k := by
  cases hn : nextI L cur with
  | none => exact hc
  | some d => rw [hn] at h; exact combos_length n 0 k _ h.cur_mem
theorem SearchAt.bound {n k : Nat} {good : List Int → Bool} {L : Int} {cur : List Int} {r : Nat} (h : SearchAt n k good (nextI L cur).isSome ((nextI L cur).getD cur) r) (hl : n ≤ 1000) (hc : ∀ x ∈ cur, small 1000000 x) : ∀ x ∈ (nextI L cur).getD cur, small 1000000 x := by
  cases hn : nextI L cur with
  | none => exact hc
  | some d =>
    rw [hn] at h
    intro x hx
    have := combos_bounds n 0 k _ h.cur_mem x hx
    unfold small
    omega

theorem madeCells_zero (k : Nat) : (madeCells (Value.int .i64 0).cells (k * 1)).toList = flatI (filled k 0) := by
  rw [show (Value.int .i64 0).cells = #[Value.int .i64 0] from rfl, toList_madeCells_one]
  simp [filled, flatI, upFrom]

set_option maxRecDepth 100000 in
set_option maxHeartbeats 1000000 in
theorem shortestG_any (pf : Nat) (lb : Array Value) (q : Option Addr) (cap : Nat) (gs : List Gl) (good : List Gl → List Gl → Bool) (w : World) (eg : ∀ args w, (callFunc pf args).run Try.prog w = .ok (.enter pf args) w)
    (ht : TestsG w pf lb gs good) (hr : RowG w q gs) (hl : gs.length ≤ 1000) :
    Calls Try.prog 107 #[.slice q gs.length cap, .func (.func pf) #[] lb] w (FoundI w (shortestOf gs.length fun is => good (sel true is gs) (sel false is gs))) := by
  obtain ⟨n, hn⟩ : ∃ n, gs.length = n := ⟨_, rfl⟩
  obtain ⟨gd, hgd⟩ : ∃ gd : List Int → Bool, (fun is => good (sel true is gs) (sel false is gs)) = gd := ⟨_, rfl⟩
  rw [hn] at hl ⊢
  rw [hgd]
  have HN := Lib.hid hn
  have HGD := Lib.hid hgd
  have HT := Lib.hid ht
  clear hn hgd ht
  obtain ⟨i0, hi, hz0, hz1, hz2⟩ := info_parts info3
  have EG := Lib.hid eg
  have HI := Lib.hid hi
  have HZ0 := Lib.hid hz0
  have HZ1 := Lib.hid hz1
  have HZ2 := Lib.hid hz2
  clear eg hi hz0 hz1 hz2
  go_enter Try.func107, Try.ntmps107
  go_wp2
  go_loopw [12] (fun i wr => ∃ k : Nat, k ≤ n + 1 ∧ i = .int .i64 k ∧ NoneBelow n k gd ∧ Below w.heap.size w wr) (fun i _ => n + 1 - (intOf i).toNat)
  case atStart => exact ⟨0, Nat.zero_le _, rfl, fun j hj => absurd hj (Nat.not_lt_zero j), Below.refl _ _⟩
  case round =>
    obtain ⟨k, hk, rfl, hnb, hbel⟩ := hrel
    by_cases hlt : k < n + 1
    · obtain ⟨wo, rfl⟩ : ∃ wo : World, wo = wr := ⟨_, rfl⟩
      have hs0 := hbel.size
      go_wp2_with (at_make; refine wpList_make_full _ rfl (.tmp 15) (.tmp 15) 57 rfl w.heap.size 3 i0 (.int .i64 0) 1 Try.underlying57 HI.out HZ0.out HZ1.out .i64 .i64 k k k rfl rfl rfl rfl (by rw [HZ2.out]; omega) (by unfold maxLen; omega) hs0 ?_; intro w1 hown1 hgrow1; rw [madeCells_zero] at hown1; have hb1 : Below w.heap.size w w1 := hbel.grown hgrow1 hbel.size (by simp))
      have hg1 : wo.heap.size < w1.heap.size := (hown1.lt wo.heap.size rfl).2
      clear hgrow1
      obtain ⟨g, hgg⟩ : ∃ g : Nat, wo.heap.size = g := ⟨_, rfl⟩
      rw [hgg] at hown1 hg1 hs0 ⊢
      clear hgg
      go_loopw [19] (fun i wr => ∃ j : Nat, j ≤ k ∧ i = .int .i64 j ∧ wr.ownsRow w.heap.size 3 1 (.slice (some ⟨g, 0, none⟩) k k) k (flatI (filled k j)) ∧ Below w.heap.size w wr ∧ g < wr.heap.size) (fun i _ => k - (intOf i).toNat)
      case atStart => exact ⟨0, Nat.zero_le _, rfl, hown1, hb1, hg1⟩
      case round =>
        obtain ⟨j, hj, rfl, hrow, hbr, hgr⟩ := hrel
        by_cases hlt' : j < k
        · have hce := hrow.cellAt j (by omega)
          rw [flatI_get _ _ (by rw [filled_length hj]; exact hlt')] at hce
          have hfz := hrow.frozenAt j
          have hst := hrow.stored j (.int .i64 j)
          rw [flatI_set, filled_set hlt'] at hst
          have HST := Lib.hid hst
          clear hst hrow
          go_wp2
          go_roundw
          case rel => exact ⟨j + 1, hlt', by go_num, HST.out.1, hbr.setCell (by simpa using hs0) _, by simpa using hgr⟩
          case measure => simp [intOf] <;> omega
        · obtain rfl : j = k := by omega
          rw [filled_all] at hrow
          obtain ⟨r0, hr0⟩ := SearchAt.start (good := gd) (show j ≤ n by omega)
          have HR0 := Lib.hid hr0
          have HROW := Lib.hid hrow
          clear hr0 hrow hown1
          go_wp2
          go_loopg [8] r0 (fun r m wr => ∃ b cur, m = .bool b ∧ SearchAt n j gd b cur r ∧ cur.length = j ∧ (∀ x ∈ cur, small 1000000 x) ∧ wr.ownsRow w.heap.size 3 1 (.slice (some ⟨g, 0, none⟩) j j) j (flatI cur) ∧ Below w.heap.size w wr ∧ g < wr.heap.size)
          case atStart => exact ⟨true, _, rfl, HR0.out, upFrom_length _ _, by intro x hx; have := combos_bounds n 0 j _ HR0.out.cur_mem x hx; unfold small; omega, HROW.out, hbr, hgr⟩
          case round =>
            obtain ⟨b, cur, rfl, hsa, hcl, hcs, hrow, hbr', hgr'⟩ := hrel
            cases b with
            | true =>
              have hl' : gs.length ≤ 1000000 := by rw [HN.out]; omega
              have hri := rowI_at hrow hcl
              have c1 := splitG_at q (some ⟨g, 0, none⟩) cap j gs cur wr (hr.below (Nat.le_refl _) hbr') hri hl' (by omega) HN.out hcl
              have C1 := Lib.hid c1
              have HSA := Lib.hid hsa
              have HCL := Lib.hid hcl
              have HROW := Lib.hid hrow
              have HCS := Lib.hid hcs
              clear c1 hsa hcl hrow hcs hri
              go_wp2_with (go_at_call 112; refine C1.out.mono ?_; rintro e w2 ⟨q1, d1, q2, d2, rfl, r1, r2, hb2⟩)
              have hbw2 : Below w.heap.size w w2 := hbr'.trans (hb2.mono hbr'.size)
              have c2 := HT.out w2 (sel true cur gs) (sel false cur gs) q1 q2 d1 d2 hbw2 r1 r2 (sel_mem _ _ _) (sel_mem _ _ _) (sel_length _ _ _) (sel_length _ _ _)
              have C2 := Lib.hid c2
              clear c2 r1 r2
              go_wp2
              rw [EG.out, Oper.upon_enter]
              refine C2.out.mono ?_
              rintro e w3 ⟨rfl, hb3⟩
              dsimp only
              obtain ⟨yes, hyes⟩ : ∃ yes, good (sel true cur gs) (sel false cur gs) = yes := ⟨_, rfl⟩
              rw [hyes]
              have hgc : gd cur = yes := by rw [← HGD.out]; exact hyes
              have hbw3 : Below w.heap.size w w3 := hbw2.trans (hb3.mono hbw2.size)
              have hrow3 := owns_below (owns_below HROW.out (Nat.le_refl _) hb2) (Nat.le_refl _) hb3
              have hg3 : g < w3.heap.size := Nat.lt_of_lt_of_le (Nat.lt_of_lt_of_le hgr' hb2.size) hb3.size
              have HGC := Lib.hid hgc
              have HR3 := Lib.hid hrow3
              clear hyes hgc hrow3
              cases yes with
              | true =>
                have hit := HSA.out.hit (by omega) hnb HGC.out
                have HIT := Lib.hid hit
                clear hit
                go_wp2
                go_ret
                refine ⟨some ⟨g, 0, none⟩, j, ?_, ?_, hbw3⟩
                · rw [HIT.out, Option.getD_some, HCL.out]; rfl
                · rw [HIT.out, Option.getD_some]; exact rowI_at HR3.out HCL.out
              | false =>
                have c3 := follow_at w.heap.size g j cur n w3 HR3.out hg3 ⟨by omega, by omega⟩ HCS.out (by rw [HCL.out]; omega) HCL.out
                have C3 := Lib.hid c3
                have hstep := HSA.out.step HGC.out
                have HST := Lib.hid hstep
                clear c3 hstep
                go_wp2_with (go_at_call 145; refine C3.out.mono ?_; rintro e w4 ⟨rfl, hgr4, hrow4⟩)
                obtain ⟨r', hr', hsa'⟩ := HST.out
                rw [HCL.out] at hrow4
                go_roundg r'
                case measure => exact hr'
                case rel => exact ⟨_, _, rfl, hsa', hsa'.len HCL.out, hsa'.bound (by omega) HCS.out, hrow4, hbw3.grown hgr4 hbw3.size (fun x e => by injection e with e; omega), Nat.lt_of_lt_of_le hg3 hgr4.size⟩
            | false =>
              have hdone := hsa.done hnb
              have HD := Lib.hid hdone
              clear hdone hsa hrow hcs hcl
              go_wp2
              go_roundw
              case rel => exact ⟨j + 1, by omega, by go_num, HD.out, hbr'⟩
              case measure => simp [intOf] <;> omega
    · obtain rfl : k = n + 1 := by omega
      have hm := shortestOf_miss hnb
      have HM := Lib.hid hm
      clear hm hnb
      go_wp2
      go_ret
      exact ⟨none, 0, by rw [HM.out]; rfl, by rw [HM.out]; exact .inl rfl, hbel⟩
end Go.Proofs.Ytcalipoknbbaaaa
