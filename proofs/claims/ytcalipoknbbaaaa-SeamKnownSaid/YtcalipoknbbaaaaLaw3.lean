/- places and hill (helpers of the law). -/
import Derived.Test.YtcalipoknbbaaaaLaw2
import Derived.Deep.AppendLies
import Derived.Deep.RegionHeld3
namespace Go.Proofs.Ytcalipoknbbaaaa
open Go.RowKit

/-- the places that numbers tell, two each -/
def pairsTo (xs : List Int) (k : Nat) : List Pl := (List.range k).map fun j : Nat => (xs.getD (2 * j) 0, xs.getD (2 * j + 1) 0)
def placesOf (xs : List Int) : List Pl := pairsTo xs (xs.length / 2)
theorem pairsTo_succ (xs : List Int) (k : Nat) : pairsTo xs (k + 1) = pairsTo xs k ++ [(xs.getD (2 * k) 0, xs.getD (2 * k + 1) 0)] := by
  unfold pairsTo; rw [List.range_succ, List.map_append]; rfl
theorem pairsTo_length (xs : List Int) (k : Nat) : (pairsTo xs k).length = k := by simp [pairsTo]

/-- places in new memory -/
def OneP (w : World) (ps : List Pl) (e : Ending) (w' : World) : Prop := ∃ q c, e = .returned (.slice q ps.length c) ∧ RowP w' q ps ∧ Below w.heap.size w w'

/-- at a step of a region that draws: append(list, p): places -/
theorem step_place (w : World) {ops : Array Oper} {o : Oper} {a : Act} {K : Act → World → Prop} {Q : Exit → Act → World → Prop} {E : Prop} (hgd : o.guard = none) (s x : Operand)
    (ho : o.op = .call { callee := .builtin .append, args := #[s, x], argTypes := #[39, 39] }) (base : Nat) (v : Value) (gs : List Pl) (g : Pl) (hs : a.eval s = v)
    (hown : w.ownsRow base 26 2 v gs.length (flatP gs)) (B c : Nat) (hx : a.eval x = .slice (some ⟨B, 0, none⟩) 1 c)
    (hc1 : w.cell? ⟨B, 0, none⟩ = some (.int .i64 g.1)) (hc2 : w.cell? ⟨B, 1, none⟩ = some (.int .i64 g.2))
    (hl : gs.length ≤ 1000000) (hbase : base ≤ w.heap.size)
    (h : ∀ v' w', w'.ownsRow base 26 2 v' (gs ++ [g]).length (flatP (gs ++ [g])) → w.grownBy w' v.ownBlock → (v'.ownBlock = v.ownBlock ∨ v'.ownBlock = some w.heap.size) → K (a.put o.dst v') w') :
    if Region.wanted o (yielded ops a.tmps) = true then Oper.wp Try.prog o a w K Q else E := by
  obtain ⟨i0, hi, hz0, hz1, hz2⟩ := info_parts info26
  refine step_append_lies w hgd s x 39 ho base 26 i0 _ 2 16 Try.underlying39 hi hz0 hz1 hz2 rfl (by decide) v gs.length (flatP gs) hs hown ⟨B, 0, none⟩ 1 c [.int .i64 g.1, .int .i64 g.2] hx rfl ?_ ?_ (by decide) (by unfold maxLen; omega) (by omega) hbase _ rfl ?_
  · intro j u hj
    rw [addr_add]
    match j, hj with
    | 0, hj => simp at hj; subst hj; exact hc1
    | 1, hj => simp at hj; subst hj; exact hc2
  · intro u hu
    simp at hu
    rcases hu with rfl | rfl <;> rfl
  · intro g' cap' w' h1 h2 h3 h4
    refine h _ w' ?_ h2 ?_
    · rw [flatP_snoc, List.length_append]
      exact h1
    · rcases h3 with h3 | h3
      · exact .inl (by rw [h3]; rfl)
      · exact .inr (by rw [h3]; rfl)

/-- what grew behind a draw -/
theorem grown_drew {w w' : World} {o : Obj} {base : Nat} {e : TypeId} {size : Nat} {v : Value} {n : Nat} {xs : List Value} (hown : w.ownsRow base e size v n xs) (hb : base ≤ w.heap.size) (hg : (w.alloc o).drew.grownBy w' v.ownBlock) : Below base w w' :=
  ((Below.refl base w).alloc hb o).drew.trans (grown_below ((hown.alloc o).drew) (by simp; omega) hg)

set_option maxRecDepth 100000 in
set_option maxHeartbeats 1000000 in
theorem places_any (q : Option Addr) (cap : Nat) (xs : List Int) (w : World) (hr : RowI w q xs) (hl : xs.length ≤ 1000000) :
    Calls Try.prog 93 #[.slice q xs.length cap] w (OneP w (placesOf xs)) := by
  have HR := Lib.hid hr
  clear hr
  go_enter Try.func93, Try.ntmps93
  go_wp2
  go_loopw [3, 4] (fun v i wr => ∃ k j : Nat, j = 2 * k ∧ j ≤ xs.length ∧ i = .int .i64 j ∧ wr.ownsRow w.heap.size 26 2 v (pairsTo xs k).length (flatP (pairsTo xs k)) ∧ Below w.heap.size w wr) (fun _ i _ => xs.length - (intOf i).toNat)
  case atStart => exact ⟨0, 0, rfl, Nat.zero_le _, rfl, World.ownsRow_nil _ _ _ _, Below.refl _ _⟩
  case round =>
    obtain ⟨k, j, hkj, hj, rfl, hown, hbel⟩ := hrel
    by_cases hlt : j + 1 < xs.length
    · obtain ⟨b, off, rfl, hz, g1⟩ := HR.out.at (show j < xs.length by omega) (Nat.le_refl _) hbel
      obtain ⟨m, hm⟩ : ∃ m : Nat, m = j + 1 := ⟨_, rfl⟩
      obtain ⟨b', off', e', hz', g2⟩ := HR.out.at (show m < xs.length by omega) (Nat.le_refl _) hbel
      simp only [Option.some.injEq, Addr.mk.injEq] at e'
      obtain ⟨rfl, rfl, _⟩ := e'
      have hst := pairsTo_succ xs k
      have hln := pairsTo_length xs k
      have HS := Lib.hid hst
      have HL := Lib.hid hln
      have HO := Lib.hid hown
      have HK := Lib.hid hkj
      have hw1 := hbel.size
      rw [← hkj, ← hm] at hst
      have HS := Lib.hid hst
      clear hst hln hown hkj
      generalize xs.getD j 0 = x at g1 HS
      generalize xs.getD m 0 = y at g2 HS
      have i0 : (0 : Int) ≤ (j : Int) := by omega
      have i1 : (j : Int) < (xs.length : Int) := by omega
      have i2 : (j : Int) + 1 = (m : Int) := by omega
      have i3 : IntKind.i64.wrap (m : Int) = (m : Int) := IntWalk.i64_in _ ⟨by omega, by omega⟩
      have i4 : (0 : Int) ≤ (m : Int) := by omega
      have i5 : (m : Int) < (xs.length : Int) := by omega
      have HM := Lib.hid hm
      clear hm
      go_wp2
      go_region_held3 (fun W => W.cell? ⟨b, off + j, none⟩ = some (.int .i64 x) ∧ W.cell? ⟨b, off + m, none⟩ = some (.int .i64 y))
        (first | go_keep | (have hq := grown_drew HO.out hw1 hgrow; refine ⟨?_, ?_⟩ <;> (rw [hq.cell (p := ⟨b, _, none⟩) hz]; assumption)))
        ((refine step_place _ (by rfl) _ _ (by rfl) w.heap.size _ (pairsTo xs k) (x, y) (by rfl) ((HO.out.alloc _).drew) wr.heap.size 1 (by rfl) (by simp) (by simp) (by rw [HL.out]; have := HK.out; omega) (by simp; omega) ?_; intro v' w3 hown3 hgrow hblk))
      have hbn := hbel.trans (grown_drew HO.out hw1 hgrow)
      go_wp2
      go_roundw
      case rel => exact ⟨k + 1, j + 2, by rw [HK.out]; omega, by have := HM.out; omega, by go_num, by rw [HS.out]; exact hown3, hbn⟩
      case measure => simp [intOf]; omega
    · have E1 := Lib.hid (show k = xs.length / 2 by omega)
      clear hkj
      obtain ⟨q1, cc, rfl, r1⟩ := rowP_of_owns hown
      clear hown
      have i2 : ¬ ((j : Int) + 1 < (xs.length : Int)) := by omega
      go_wp2
      go_ret
      exact ⟨q1, cc, by rw [placesOf, ← E1.out] <;> try rfl, by rw [placesOf, ← E1.out]; exact r1, hbel⟩
end Go.Proofs.Ytcalipoknbbaaaa
