/- The walk of shortest (package seam) at places: out of that at galleries, the numbers of functions and the elements turned. -/
import Derived.Test.YtcalipoknbbaaaaShort
namespace Go.Proofs.Ytcalipoknbbaaaa
open Go.RowKit

/-- what a test that is handed to shortest has to answer -/
def TestsP (w : World) (pf : Nat) (lb : Array Value) (gs : List Pl) (good : List Pl → List Pl → Bool) : Prop :=
  ∀ (W : World) (xs ys : List Pl) (q1 q2 : Option Addr) (c1 c2 : Nat), Below w.heap.size w W → RowP W q1 xs → RowP W q2 ys → (∀ g ∈ xs, g ∈ gs) → (∀ g ∈ ys, g ∈ gs) → xs.length ≤ gs.length → ys.length ≤ gs.length →
    Calls Try.prog pf (#[.slice q1 xs.length c1, .slice q2 ys.length c2] ++ lb) W fun e W' => e = .returned (.bool (good xs ys)) ∧ Below W.heap.size W W'

set_option maxRecDepth 100000 in
set_option maxHeartbeats 1000000 in
theorem shortestP_any (pf : Nat) (lb : Array Value) (q : Option Addr) (cap : Nat) (gs : List Pl) (good : List Pl → List Pl → Bool) (w : World) (eg : ∀ args w, (callFunc pf args).run Try.prog w = .ok (.enter pf args) w)
    (ht : TestsP w pf lb gs good) (hr : RowP w q gs) (hl : gs.length ≤ 1000) :
    Calls Try.prog 122 #[.slice q gs.length cap, .func (.func pf) #[] lb] w (FoundI w (shortestOf gs.length fun is => good (sel true is gs) (sel false is gs))) := by
  obtain ⟨n, hn⟩ : ∃ n, gs.length = n := ⟨_, rfl⟩
  obtain ⟨gd, hgd⟩ : ∃ gd : List Int → Bool, (fun is => good (sel true is gs) (sel false is gs)) = gd := ⟨_, rfl⟩
  rw [hn] at hl ⊢
  rw [hgd]
  have HN := Lib.hid hn
  have HGD := Lib.hid hgd
  have HT := Lib.hid ht
  clear hn hgd ht
  obtain ⟨i0, hi, hz0, hz1, hz2⟩ := info_parts info3
  have EG := Lib.hid eg
  have HI := Lib.hid hi
  have HZ0 := Lib.hid hz0
  have HZ1 := Lib.hid hz1
  have HZ2 := Lib.hid hz2
  clear eg hi hz0 hz1 hz2
  go_enter Try.func122, Try.ntmps122
  go_wp2
  go_loopw [12] (fun i wr => ∃ k : Nat, k ≤ n + 1 ∧ i = .int .i64 k ∧ NoneBelow n k gd ∧ Below w.heap.size w wr) (fun i _ => n + 1 - (intOf i).toNat)
  case atStart => exact ⟨0, Nat.zero_le _, rfl, fun j hj => absurd hj (Nat.not_lt_zero j), Below.refl _ _⟩
  case round =>
    obtain ⟨k, hk, rfl, hnb, hbel⟩ := hrel
    by_cases hlt : k < n + 1
    · obtain ⟨wo, rfl⟩ : ∃ wo : World, wo = wr := ⟨_, rfl⟩
      have hs0 := hbel.size
      go_wp2_with (at_make; refine wpList_make_full _ rfl (.tmp 15) (.tmp 15) 57 rfl w.heap.size 3 i0 (.int .i64 0) 1 Try.underlying57 HI.out HZ0.out HZ1.out .i64 .i64 k k k rfl rfl rfl rfl (by rw [HZ2.out]; omega) (by unfold maxLen; omega) hs0 ?_; intro w1 hown1 hgrow1; rw [madeCells_zero] at hown1; have hb1 : Below w.heap.size w w1 := hbel.grown hgrow1 hbel.size (by simp))
      have hg1 : wo.heap.size < w1.heap.size := (hown1.lt wo.heap.size rfl).2
      clear hgrow1
      obtain ⟨g, hgg⟩ : ∃ g : Nat, wo.heap.size = g := ⟨_, rfl⟩
      rw [hgg] at hown1 hg1 hs0 ⊢
      clear hgg
      go_loopw [19] (fun i wr => ∃ j : Nat, j ≤ k ∧ i = .int .i64 j ∧ wr.ownsRow w.heap.size 3 1 (.slice (some ⟨g, 0, none⟩) k k) k (flatI (filled k j)) ∧ Below w.heap.size w wr ∧ g < wr.heap.size) (fun i _ => k - (intOf i).toNat)
      case atStart => exact ⟨0, Nat.zero_le _, rfl, hown1, hb1, hg1⟩
      case round =>
        obtain ⟨j, hj, rfl, hrow, hbr, hgr⟩ := hrel
        by_cases hlt' : j < k
        · have hce := hrow.cellAt j (by omega)
          rw [flatI_get _ _ (by rw [filled_length hj]; exact hlt')] at hce
          have hfz := hrow.frozenAt j
          have hst := hrow.stored j (.int .i64 j)
          rw [flatI_set, filled_set hlt'] at hst
          have HST := Lib.hid hst
          clear hst hrow
          go_wp2
          go_roundw
          case rel => exact ⟨j + 1, hlt', by go_num, HST.out.1, hbr.setCell (by simpa using hs0) _, by simpa using hgr⟩
          case measure => simp [intOf] <;> omega
        · obtain rfl : j = k := by omega
          rw [filled_all] at hrow
          obtain ⟨r0, hr0⟩ := SearchAt.start (good := gd) (show j ≤ n by omega)
          have HR0 := Lib.hid hr0
          have HROW := Lib.hid hrow
          clear hr0 hrow hown1
          go_wp2
          go_loopg [8] r0 (fun r m wr => ∃ b cur, m = .bool b ∧ SearchAt n j gd b cur r ∧ cur.length = j ∧ (∀ x ∈ cur, small 1000000 x) ∧ wr.ownsRow w.heap.size 3 1 (.slice (some ⟨g, 0, none⟩) j j) j (flatI cur) ∧ Below w.heap.size w wr ∧ g < wr.heap.size)
          case atStart => exact ⟨true, _, rfl, HR0.out, upFrom_length _ _, by intro x hx; have := combos_bounds n 0 j _ HR0.out.cur_mem x hx; unfold small; omega, HROW.out, hbr, hgr⟩
          case round =>
            obtain ⟨b, cur, rfl, hsa, hcl, hcs, hrow, hbr', hgr'⟩ := hrel
            cases b with
            | true =>
              have hl' : gs.length ≤ 1000000 := by rw [HN.out]; omega
              have hri := rowI_at hrow hcl
              have c1 := splitP_at q (some ⟨g, 0, none⟩) cap j gs cur wr (hr.below (Nat.le_refl _) hbr') hri hl' (by omega) HN.out hcl
              have C1 := Lib.hid c1
              have HSA := Lib.hid hsa
              have HCL := Lib.hid hcl
              have HROW := Lib.hid hrow
              have HCS := Lib.hid hcs
              clear c1 hsa hcl hrow hcs hri
              go_wp2_with (go_at_call 114; refine C1.out.mono ?_; rintro e w2 ⟨q1, d1, q2, d2, rfl, r1, r2, hb2⟩)
              have hbw2 : Below w.heap.size w w2 := hbr'.trans (hb2.mono hbr'.size)
              have c2 := HT.out w2 (sel true cur gs) (sel false cur gs) q1 q2 d1 d2 hbw2 r1 r2 (sel_mem _ _ _) (sel_mem _ _ _) (sel_length _ _ _) (sel_length _ _ _)
              have C2 := Lib.hid c2
              clear c2 r1 r2
              go_wp2
              rw [EG.out, Oper.upon_enter]
              refine C2.out.mono ?_
              rintro e w3 ⟨rfl, hb3⟩
              dsimp only
              obtain ⟨yes, hyes⟩ : ∃ yes, good (sel true cur gs) (sel false cur gs) = yes := ⟨_, rfl⟩
              rw [hyes]
              have hgc : gd cur = yes := by rw [← HGD.out]; exact hyes
              have hbw3 : Below w.heap.size w w3 := hbw2.trans (hb3.mono hbw2.size)
              have hrow3 := owns_below (owns_below HROW.out (Nat.le_refl _) hb2) (Nat.le_refl _) hb3
              have hg3 : g < w3.heap.size := Nat.lt_of_lt_of_le (Nat.lt_of_lt_of_le hgr' hb2.size) hb3.size
              have HGC := Lib.hid hgc
              have HR3 := Lib.hid hrow3
              clear hyes hgc hrow3
              cases yes with
              | true =>
                have hit := HSA.out.hit (by omega) hnb HGC.out
                have HIT := Lib.hid hit
                clear hit
                go_wp2
                go_ret
                refine ⟨some ⟨g, 0, none⟩, j, ?_, ?_, hbw3⟩
                · rw [HIT.out, Option.getD_some, HCL.out]; rfl
                · rw [HIT.out, Option.getD_some]; exact rowI_at HR3.out HCL.out
              | false =>
                have c3 := follow_at w.heap.size g j cur n w3 HR3.out hg3 ⟨by omega, by omega⟩ HCS.out (by rw [HCL.out]; omega) HCL.out
                have C3 := Lib.hid c3
                have hstep := HSA.out.step HGC.out
                have HST := Lib.hid hstep
                clear c3 hstep
                go_wp2_with (go_at_call 145; refine C3.out.mono ?_; rintro e w4 ⟨rfl, hgr4, hrow4⟩)
                obtain ⟨r', hr', hsa'⟩ := HST.out
                rw [HCL.out] at hrow4
                go_roundg r'
                case measure => exact hr'
                case rel => exact ⟨_, _, rfl, hsa', hsa'.len HCL.out, hsa'.bound (by omega) HCS.out, hrow4, hbw3.grown hgr4 hbw3.size (fun x e => by injection e with e; omega), Nat.lt_of_lt_of_le hg3 hgr4.size⟩
            | false =>
              have hdone := hsa.done hnb
              have HD := Lib.hid hdone
              clear hdone hsa hrow hcs hcl
              go_wp2
              go_roundw
              case rel => exact ⟨j + 1, by omega, by go_num, HD.out, hbr'⟩
              case measure => simp [intOf] <;> omega
    · obtain rfl : k = n + 1 := by omega
      have hm := shortestOf_miss hnb
      have HM := Lib.hid hm
      clear hm hnb
      go_wp2
      go_ret
      exact ⟨none, 0, by rw [HM.out]; rfl, by rw [HM.out]; exact .inl rfl, hbel⟩
end Go.Proofs.Ytcalipoknbbaaaa
