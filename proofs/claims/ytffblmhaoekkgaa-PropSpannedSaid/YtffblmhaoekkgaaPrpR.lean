/- Chapter 7's law, the walks: corners (a function is called for each truth with ends of bounds). -/
import Derived.Test.YtffblmhaoekkgaaPrpO
import Derived.Laws.EntriesVeiled
import Derived.Lib.RabinKarpLaws
namespace Go.Proofs.Ytffblmhaoekkgaa.prp
open Go.RowKit
set_option linter.unusedSimpArgs false
set_option linter.unusedVariables false

theorem bit_eqN (s k : Nat) (hs : s < 4096) : (bits BinOp.and IntKind.i64 ((s : Int) / 2 ^ k) 1 == 1) = s.testBit k := by
  have e : ((s : Int) / 2 ^ k) = ((s / 2 ^ k : Nat) : Int) := by simp
  have h : s / 2 ^ k ≤ s := Nat.div_le_self _ _
  rw [e, Go.Proofs.and_one _ (by omega), Nat.testBit_eq_decide_div_mod_eq]
  by_cases h1 : s / 2 ^ k % 2 = 1
  · rw [h1]; rfl
  · have h0 : s / 2 ^ k % 2 = 0 := by omega
    rw [h0]; rfl
/-- the truth that a set of stones tells: these are heavy, the others light -/
def corn1 (g : Sn) (b : Bool) : Int := if b then g.most else g.least
def cornTo (l : List Sn) (s k : Nat) : List Int := (List.range k).map fun i => corn1 (l.getD i zs) (s.testBit i)
theorem cornTo_succ (l : List Sn) (s k : Nat) : cornTo l s (k + 1) = cornTo l s k ++ [corn1 (l.getD k zs) (s.testBit k)] := by
  unfold cornTo; rw [List.range_succ, List.map_append]; rfl
theorem cornTo_length (l : List Sn) (s k : Nat) : (cornTo l s k).length = k := by simp [cornTo]
def cornS (l : List Sn) (s : Nat) : List Int := cornTo l s l.length

set_option maxRecDepth 100000 in
set_option maxHeartbeats 4000000 in
theorem corners_gen (pf : Nat) (lb : Array Value) (eg : ∀ args w, (callFunc pf args).run Try.prog w = .ok (.enter pf args) w) (q : Option Addr) (cap : Nat) (l : List Sn) (N : Nat) (w : World) (J : Nat → World → Prop)
    (hr : RowV w q (flatS l)) (hl : l.length ≤ 5) (hq : ∀ a, q = some a → a.block < N) (hN : N ≤ w.heap.size) (hJ0 : J 0 w) (hJb : ∀ k W W', J k W → Below W.heap.size W W' → J k W')
    (hstep : ∀ k W q2 c2, k < 2 ^ l.length → J k W → Below N w W → RowV W q2 (flatI (cornS l k)) → Calls Try.prog pf (#[.slice q2 l.length c2] ++ lb) W fun e W' => e = .returned (.tuple #[]) ∧ J (k + 1) W' ∧ Below N W W') :
    Calls Try.prog 21 #[.slice q l.length cap, .func (.func pf) #[] lb] w fun e w' => e = .returned (.tuple #[]) ∧ J (2 ^ l.length) w' ∧ Below N w w' := by
  have EG := Lib.hid eg
  have HS := Lib.hid hstep
  have HJB := Lib.hid hJb
  have HQ := Lib.hid hq
  have hp : 2 ^ l.length ≤ 32 := Nat.pow_le_pow_right (by omega) (show l.length ≤ 5 by omega)
  obtain ⟨M, hM⟩ : ∃ M, 2 ^ l.length = M := ⟨_, rfl⟩
  have hpe : (2 : Int) ^ l.length = (M : Int) := by rw [← hM]; simp
  rw [hM] at hp HS ⊢
  have hw : IntKind.i64.wrap ((2 : Int) ^ l.length) = (M : Int) := by rw [hpe, IntWalk.i64_in _ ⟨by omega, by omega⟩]
  clear eg hstep hJb hq hpe hM
  have HJ0 := Lib.hid hJ0
  clear hJ0
  go_enter Try.func21, Try.ntmps21
  go_wp2
  go_loopw [11] (fun i wr => ∃ k : Nat, k ≤ M ∧ i = .int .i64 k ∧ Hid (J k wr) ∧ Below N w wr) (fun i _ => M - (intOf i).toNat)
  case atStart => exact ⟨0, Nat.zero_le _, rfl, HJ0, Below.refl _ _⟩
  case round =>
    obtain ⟨k, hk, rfl, HJ, hbel⟩ := hrel
    obtain ⟨W0, rfl⟩ : ∃ W0 : World, W0 = wr := ⟨_, rfl⟩
    by_cases hlt : k < M
    · have hsz := hbel.size
      have hr0 := hr.keep (N := N) HQ.out hbel
      have HR0 := Lib.hid hr0
      clear hr0
      go_wp2
      go_loopw [5, 16] (fun v i wx => ∃ j : Nat, j ≤ l.length ∧ i = .int .i64 j ∧ wx.ownsRow W0.heap.size 3 1 v j (flatI (cornTo l k j)) ∧ Below W0.heap.size W0 wx) (fun _ i _ => l.length - (intOf i).toNat)
      case atStart => exact ⟨0, Nat.zero_le _, rfl, World.ownsRow_nil _ _ _ _, Below.refl _ _⟩
      case round =>
        obtain ⟨j, hj, rfl, hown, hbx⟩ := hrel
        by_cases hlj : j < l.length
        · obtain ⟨b, off, rfl, hb, h1, h2, h3, h4⟩ := rowS_at HR0.out hlj (Nat.le_refl _) hbx
          have hst := cornTo_succ l k j
          have hbt := bit_eqN k j (by omega)
          generalize (l.getD j zs) = g at h1 h2 h3 h4 hst
          generalize hbv : k.testBit j = bt at hst hbt
          have hsx := hbx.size
          have HO := Lib.hid hown
          have HBX := Lib.hid hbx
          have HST := Lib.hid hst
          clear hst hown hbv
          cases bt
          · go_upto_region 9 with fail
            have A0 : Below wr.heap.size wr (wr.alloc (.cells #[.int .i64 g.half, .int .i64 g.at_, .int .i64 g.least, .int .i64 g.most] 44)) := (Below.refl _ _).alloc (Nat.le_refl _) _
            have e2 : (wr.alloc (.cells #[.int .i64 g.half, .int .i64 g.at_, .int .i64 g.least, .int .i64 g.most] 44)).cell? ⟨wr.heap.size, 2, none⟩ = some (.int .i64 g.least) := by simp
            have HO1 := Lib.hid (owns_below HO.out (Nat.le_refl _) A0)
            have HB1 := Lib.hid (HBX.out.trans (A0.mono hsx))
            have hsz1 : W0.heap.size ≤ (wr.alloc (.cells #[.int .i64 g.half, .int .i64 g.at_, .int .i64 g.least, .int .i64 g.most] 44)).heap.size := HB1.out.size
            clear A0
            generalize (wr.alloc (.cells #[.int .i64 g.half, .int .i64 g.at_, .int .i64 g.least, .int .i64 g.most] 44)) = W2 at *
            go_wp2_with (at_builtin; refine app_one _ rfl (.tmp 31) (.tmp 34) 36 rfl W0.heap.size 3 _ 1 8 Try.underlying36 infoI rfl (by decide) (by decide) u5 j (flatI (cornTo l k j)) rfl (HO1.out.alloc _) W2.heap.size 1 rfl [.int .i64 g.least] rfl ?_ ?_ (by omega) (by simp; omega) ?_; (focus (intro j u hj; match j, hj with | 0, hj => (simp at hj; subst hj; simp))); (focus (intro u hu; simp at hu; subst hu; rfl)); intro v' w3 hown3 hgrow hblk)
            have hrow : w3.ownsRow W0.heap.size 3 1 v' (j + 1) (flatI (cornTo l k (j + 1))) := by
              rw [HST.out, flatI_snoc]; exact hown3
            have hgb : Below W0.heap.size W2 w3 := grown_al HO1.out (by omega) hgrow
            exact ⟨⟨j + 1, hlj, by go_num, hrow, HB1.out.trans hgb⟩, by simp [intOf]; omega⟩
          · go_upto_region 8 with fail
            have A0 : Below wr.heap.size wr (wr.alloc (.cells #[.int .i64 g.half, .int .i64 g.at_, .int .i64 g.least, .int .i64 g.most] 44)) := (Below.refl _ _).alloc (Nat.le_refl _) _
            have e2 : (wr.alloc (.cells #[.int .i64 g.half, .int .i64 g.at_, .int .i64 g.least, .int .i64 g.most] 44)).cell? ⟨wr.heap.size, 3, none⟩ = some (.int .i64 g.most) := by simp
            have HO1 := Lib.hid (owns_below HO.out (Nat.le_refl _) A0)
            have HB1 := Lib.hid (HBX.out.trans (A0.mono hsx))
            have hsz1 : W0.heap.size ≤ (wr.alloc (.cells #[.int .i64 g.half, .int .i64 g.at_, .int .i64 g.least, .int .i64 g.most] 44)).heap.size := HB1.out.size
            clear A0
            generalize (wr.alloc (.cells #[.int .i64 g.half, .int .i64 g.at_, .int .i64 g.least, .int .i64 g.most] 44)) = W2 at *
            go_wp2_with (at_builtin; refine app_one _ rfl (.tmp 26) (.tmp 29) 36 rfl W0.heap.size 3 _ 1 8 Try.underlying36 infoI rfl (by decide) (by decide) u5 j (flatI (cornTo l k j)) rfl (HO1.out.alloc _) W2.heap.size 1 rfl [.int .i64 g.most] rfl ?_ ?_ (by omega) (by simp; omega) ?_; (focus (intro j u hj; match j, hj with | 0, hj => (simp at hj; subst hj; simp))); (focus (intro u hu; simp at hu; subst hu; rfl)); intro v' w3 hown3 hgrow hblk)
            have hrow : w3.ownsRow W0.heap.size 3 1 v' (j + 1) (flatI (cornTo l k (j + 1))) := by
              rw [HST.out, flatI_snoc]; exact hown3
            have hgb : Below W0.heap.size W2 w3 := grown_al HO1.out (by omega) hgrow
            exact ⟨⟨j + 1, hlj, by go_num, hrow, HB1.out.trans hgb⟩, by simp [intOf]; omega⟩
        · obtain rfl : j = l.length := by omega
          have hlen := cornTo_length l k l.length
          obtain ⟨q9, c9, rfl, hr9, hc9, hq9⟩ := rowV_of_owns hown (by intro h0; rw [h0]; rfl)
          have hbN := hbel.trans (hbx.mono (by omega))
          have hc := HS.out k wr q9 c9 hlt (HJB.out k W0 wr HJ.out hbx) hbN hr9
          have HC := Lib.hid hc
          have HBN := Lib.hid hbN
          clear hown hr9 hc9 hq9 hc hbN hbx
          go_wp2
          rw [EG.out, Oper.upon_enter]
          refine HC.out.mono ?_
          rintro e w2 ⟨rfl, hj2, hb2⟩
          dsimp only
          have HJ2 := Lib.hid hj2
          have hb3 := HBN.out.trans hb2
          clear hj2 hb2
          go_wp2
          go_roundw
          case rel => exact ⟨k + 1, hlt, by go_num, HJ2, hb3⟩
          case measure => simp [intOf]; omega
    · obtain rfl : k = M := by omega
      go_wp2
      refine bodyPost_end (results_none rfl _ _ _) rfl ?_
      exact ⟨rfl, HJ.out, hbel⟩
end Go.Proofs.Ytffblmhaoekkgaa.prp
