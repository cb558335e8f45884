/- Chapter 7, the walks: Lay, stones moved, sort.Search, Slack. -/
import Derived.Test.YtffblmhaoekkgaaPrpAB
import Derived.Deep.CutRange
namespace Go.Proofs.Ytffblmhaoekkgaa.prp
open Go.RowKit
set_option linter.unusedSimpArgs false
set_option linter.unusedVariables false

/-! Lay -/
theorem flatS_take : ∀ (l : List Sn) (k : Nat), flatS (l.take k) = (flatS l).take (k * 4)
  | l, 0 => by simp [flatS]
  | [], k + 1 => by simp [flatS]
  | s :: l, k + 1 => by
    have ih := flatS_take l k
    have e : ∀ (s : Sn) (l : List Sn), flatS (s :: l) = .int .i64 s.half :: .int .i64 s.at_ :: .int .i64 s.least :: .int .i64 s.most :: flatS l := by simp [flatS]
    rw [List.take_succ_cons, e, ih, e, show (k + 1) * 4 = k * 4 + 1 + 1 + 1 + 1 by omega]
    simp only [List.take_succ_cons]
theorem RowV.take {w : World} {q : Option Addr} {vs : List Value} (h : RowV w q vs) (n : Nat) : RowV w q (vs.take n) := by
  rcases h with h | ⟨b, off, e, hz, hc⟩
  · exact .inl (by simp [h])
  · refine .inr ⟨b, off, e, hz, fun i v hi => hc i v ?_⟩
    rw [List.getElem?_take] at hi
    split at hi
    · exact hi
    · cases hi
/-- the first number of stones that may tip -/
def layTo (l : List Sn) : Nat → Option Nat
  | 0 => none
  | k + 1 => (layTo l k).or (if standsS (l.take (k + 1)) then none else some (k + 1))
def layV : Option Nat → Int × Int
  | none => (0, 13)
  | some n => ((n : Int), 0)
theorem layTo_more (l : List Sn) (n : Nat) : ∀ k j, layTo l k = some n → layTo l (k + j) = some n
  | k, 0, h => h
  | k, j + 1, h => by
    have ih := layTo_more l n k j h
    show (layTo l (k + j)).or _ = _
    rw [ih]; rfl
set_option maxRecDepth 100000 in
set_option maxHeartbeats 4000000 in
theorem Lay_any (q : Option Addr) (cap : Nat) (l : List Sn) (w : World) (hr : RowV w q (flatS l)) (hE : errP l = 0) (hcap : l.length ≤ cap) :
    Calls Try.prog 33 #[.slice q l.length cap] w fun e w' => e = .returned (.tuple #[.int .i64 (layV (layTo l l.length)).1, .int .i64 (layV (layTo l l.length)).2]) ∧ Below w.heap.size w w' := by
  obtain ⟨h1, h5, hok⟩ := errP_ok hE
  have hc := Check_any q cap l w hr (by omega)
  rw [hE] at hc
  have HC := Lib.hid hc
  have HST := Lib.hid (fun (k : Nat) (hk : k < l.length) (W : World) (hb : Below w.heap.size w W) => stands_any q cap (l.take (k + 1)) W (by rw [flatS_take]; exact (hr.below (Nat.le_refl _) hb).take _) (by rw [List.length_take]; omega) (fun s hs => hok s (List.mem_of_mem_take hs)))
  clear hc hE hr hok
  go_enter Try.func33, Try.ntmps33
  go_upto_region 2 with (go_at_call 16; refine HC.out.mono ?_; rintro e W1 ⟨rfl, hb1⟩)
  have HB1 := Lib.hid hb1
  clear hb1
  go_wp2
  go_loopw [13] (fun i wr => ∃ k : Nat, k ≤ l.length ∧ i = .int .i64 k ∧ Hid (layTo l k = none) ∧ Hid (Below w.heap.size w wr)) (fun i _ => l.length - (intOf i).toNat)
  case atStart => exact ⟨0, Nat.zero_le _, rfl, Lib.hid rfl, HB1⟩
  case round =>
    obtain ⟨k, hk, rfl, HN, HB⟩ := hrel
    by_cases hlt : k < l.length
    · have hst := HST.out k hlt wr HB.out
      rw [show (l.take (k + 1)).length = k + 1 by rw [List.length_take]; omega] at hst
      obtain ⟨v, hv⟩ : ∃ v, standsS (l.take (k + 1)) = v := ⟨_, rfl⟩
      rw [hv] at hst
      have HV := Lib.hid hv
      have HS := Lib.hid hst
      have hk5 : (k : Int) + 1 ≤ 5 := by omega
      have hkc : (k : Int) + 1 ≤ (cap : Int) := by omega
      have hk0 : (0 : Int) ≤ (k : Int) + 1 := by omega
      have hkt : ((k : Int) + 1).toNat = k + 1 := by omega
      clear hst hv
      cases v
      · have hlast : layTo l l.length = some (k + 1) := by
          have e : layTo l (k + 1) = some (k + 1) := by
            show (layTo l k).or _ = _
            rw [HN.out, HV.out]; rfl
          have := layTo_more l (k + 1) (k + 1) (l.length - (k + 1)) e
          rw [show k + 1 + (l.length - (k + 1)) = l.length by omega] at this
          exact this
        have HL := Lib.hid hlast
        clear hlast
        go_wp2_with (go_at_call 53; refine HS.out.mono ?_; rintro e W2 ⟨rfl, hb2⟩)
        go_ret2
        exact ⟨by rw [HL.out]; rfl, HB.out.on hb2⟩
      · have hnext : layTo l (k + 1) = none := by
          show (layTo l k).or _ = _
          rw [HN.out, HV.out]; rfl
        have HL := Lib.hid hnext
        clear hnext
        go_wp2_with (go_at_call 53; refine HS.out.mono ?_; rintro e W2 ⟨rfl, hb2⟩)
        have HB2 := Lib.hid (HB.out.on hb2)
        go_roundw
        case rel => exact ⟨k + 1, hlt, by go_num, HL, HB2⟩
        case measure => simp [intOf]; omega
    · obtain rfl : k = l.length := by omega
      go_wp2
      go_ret2
      exact ⟨by rw [HN.out]; rfl, HB.out⟩
end Go.Proofs.Ytffblmhaoekkgaa.prp
