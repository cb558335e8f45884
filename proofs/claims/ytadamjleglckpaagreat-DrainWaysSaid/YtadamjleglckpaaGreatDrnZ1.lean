/- Package drain, the walks: wayFrom. -/
import Derived.Test.YtadamjleglckpaaGreatDrnY
import Derived.Test.YtadamjleglckpaaGreatQa3
import Derived.Test.YtadamjleglckpaaGreatQa5
namespace Go.Proofs.YtadamjleglckpaaGreat.drn
open Go.RowKit
set_option linter.unusedSimpArgs false
set_option linter.unusedVariables false

theorem as_mg' (v : Value) (w : World) : (Instr.typeAssert (.iface 151 v) 126 124 true).run Tryz.prog w = .ok (.tuple #[.int .i64 0, .bool false]) w := by kernel_rfl
theorem as_mm' (v : Value) (w : World) : (Instr.typeAssert (.iface 151 v) 126 151 true).run Tryz.prog w = .ok (.tuple #[v, .bool true]) w := by kernel_rfl
theorem as_gg' (v : Value) (w : World) : (Instr.typeAssert (.iface 124 v) 126 124 true).run Tryz.prog w = .ok (.tuple #[v, .bool true]) w := by kernel_rfl
attribute [local go_sem ↓] as_mg' as_mm' as_gg'

theorem nextAt {n : Nat} {ch : List Ch} {xs : List Value} (h : OneEach n ch) (hx : ∀ j, j < ch.length → xs[(ch.getD j (0, 0, 0)).1.toNat]? = some (plV n (ch.getD j (0, 0, 0)).2.1)) (g : Nat) (hg : g < n) : xs[g]? = some (plV n (nextG n ch g)) := by
  obtain ⟨c, hc, e1, e2⟩ := next_mem h hg
  obtain ⟨j, hj, rfl⟩ := List.getElem_of_mem hc
  have := hx j hj
  rw [getD_eq ch j (0, 0, 0) hj, e1] at this
  rw [e2]
  simpa using this

set_option maxRecDepth 100000 in
set_option maxHeartbeats 1000000 in
theorem wayFrom_any (n : Nat) (g : Nat) (q : Option Addr) (cap : Nat) (ch : List Ch) (w : World) (hn : n ≤ 6) (hl : ch.length ≤ 14) (hg : g < n) (ho : OneEach n ch) (hall : ∀ g : Nat, g < n → reach n ch n g = true) (hr : RowV w q (flatC n ch)) :
    Calls Tryz.prog 93 #[plV n g, .slice q ch.length cap] w (RetV w 3 1 (wayF n ch n g).length (flatI (wayF n ch n g))) := by
  have e : plV n g = .iface 124 (.int .i64 g) := by simp only [plV]; rw [if_neg (by omega)]
  have HO := Lib.hid ho
  have HALL := Lib.hid hall
  have HE := Lib.hid e
  rw [e]
  clear ho hall e
  go_enter Tryz.func93, Tryz.ntmps93
  go_wp2
  obtain ⟨W0, hW0⟩ : ∃ W0, w.alloc (.cells #[.nilIface, .nilIface, .nilIface, .nilIface, .nilIface, .nilIface] 150) = W0 := ⟨_, rfl⟩
  have hown0 : W0.ownsRow w.heap.size 150 1 (.slice (some ⟨w.heap.size, 0, none⟩) 6 6) 6 [.nilIface, .nilIface, .nilIface, .nilIface, .nilIface, .nilIface] := by
    rw [← hW0]
    exact World.ownsRow_lit (base := w.heap.size) (e := 150) (size := 1) w #[.nilIface, .nilIface, .nilIface, .nilIface, .nilIface, .nilIface] 6 (Nat.le_refl _) (by decide) rfl
  have hb0 : Below w.heap.size w W0 := by rw [← hW0]; exact (Below.refl _ _).alloc (Nat.le_refl _) _
  rw [hW0]
  clear hW0
  go_loopw [13] (fun i wr => ∃ (k : Nat) (xs : List Value), k ≤ ch.length ∧ i = .int .i64 k ∧ wr.ownsRow w.heap.size 150 1 (.slice (some ⟨w.heap.size, 0, none⟩) 6 6) 6 xs ∧ (∀ j, j < k → xs[(ch.getD j (0, 0, 0)).1.toNat]? = some (plV n (ch.getD j (0, 0, 0)).2.1)) ∧ Below w.heap.size w wr) (fun i _ => ch.length - (intOf i).toNat)
  case atStart => exact ⟨0, _, Nat.zero_le _, rfl, hown0, fun j hj => absurd hj (Nat.not_lt_zero j), hb0⟩
  case round =>
    obtain ⟨k, xs, hk, rfl, hown, hset, hbel⟩ := hrel
    have hxl : xs.length = 6 := hown.1
    have hzw := (hown.lt w.heap.size rfl).2
    by_cases hlt : k < ch.length
    · obtain ⟨b, off, rfl, hb, h1, h2, h3⟩ := rowC_at hr hlt (Nat.le_refl _) hbel
      have hok := HO.out.1 _ (getD_mem ch k (0, 0, 0) hlt)
      have hpw := HO.out.2.2
      have hother : ∀ j, j < k → (ch.getD j (0, 0, 0)).1.toNat ≠ (ch.getD k (0, 0, 0)).1.toNat := by
        intro j hj e
        rw [getD_eq ch j (0, 0, 0) (by omega), getD_eq ch k (0, 0, 0) hlt] at e
        have h4 := List.pairwise_iff_getElem.1 hpw j k (by omega) hlt hj
        have a1 := (HO.out.1 _ (List.getElem_mem (show j < ch.length by omega))).1.1
        have a2 := (HO.out.1 _ (List.getElem_mem hlt)).1.1
        exact h4 (by omega)
      have hset2 : ∀ u : Value, u = plV n (ch.getD k (0, 0, 0)).2.1 → ∀ j, j < k + 1 → (xs.set (ch.getD k (0, 0, 0)).1.toNat u)[(ch.getD j (0, 0, 0)).1.toNat]? = some (plV n (ch.getD j (0, 0, 0)).2.1) := by
        intro u hu j hj
        by_cases hjk : j = k
        · subst hjk
          have := hok.1.2
          rw [List.getElem?_set_self (by have := hok.1.1; omega), hu]
        · rw [List.getElem?_set_ne (fun e => hother j (by omega) e.symm)]
          exact hset j (by omega)
      generalize ch.getD k (0, 0, 0) = c at h1 h2 h3 hok hset2
      obtain ⟨x, y, z⟩ := c
      obtain ⟨⟨x0, x1⟩, _⟩ := hok
      dsimp only at *
      obtain ⟨x, rfl⟩ : ∃ i : Nat, x = i := ⟨x.toNat, by omega⟩
      rw [Int.toNat_natCast] at hset2
      obtain ⟨T, hT⟩ : ∃ T, plV n y = .iface T (.int .i64 y) := ⟨_, rfl⟩
      rw [hT] at h2
      have hs2 := hset2 _ hT.symm
      have hx6 : x < 6 := by omega
      have hxi : (x : Int) < 6 := by omega
      have howa := hown.alloc (.cells #[.int .i64 x, .iface T (.int .i64 y), .int .i64 z] 128)
      have hce := howa.cellAt x (by omega)
      have hfz := howa.frozenAt x
      have hst := hown.stored x (.iface T (.int .i64 y))
      have hxs : (xs[x]?) = some xs[x] := List.getElem?_eq_getElem (by omega)
      rw [hxs] at hce
      have hbA := hbel.grown hst.2 hbel.size (fun k hk => by injection hk with hk; omega)
      have HST := Lib.hid hst.1
      have HS2 := Lib.hid hs2
      have HBA := Lib.hid hbA
      clear hst hs2 hset2 hset hother hpw hown howa hT hbA
      go_wp2
      go_roundw
      case rel => exact ⟨k + 1, _, hlt, by go_num, HST.out.alloc _, HS2.out, HBA.out.alloc HBA.out.size _⟩
      case measure => simp [intOf]; omega
    · obtain rfl : k = ch.length := by omega
      have hnx : ∀ g : Nat, g < n → xs[g]? = some (plV n (nextG n ch g)) := nextAt HO.out hset
      have hr0 := HALL.out g hg
      have HNX := Lib.hid hnx
      have HR0 := Lib.hid hr0
      have HOW := Lib.hid hown
      clear hnx hr0 hset hown hown0 hb0
      obtain ⟨W1, rfl⟩ : ∃ W : World, W = wr := ⟨_, rfl⟩
      go_wp2
      go_loopg [0, 8] n (fun f p v w2 => ∃ (h : Nat) (acc : List Int), h ≤ n ∧ p = plV n h ∧ reach n ch f h = true ∧ acc ++ wayF n ch f h = wayF n ch n g ∧ f + acc.length ≤ n ∧ w2.ownsRow W1.heap.size 3 1 v acc.length (flatI acc) ∧ Below W1.heap.size W1 w2)
      case atStart => exact ⟨g, [], by omega, by rw [HE.out], HR0.out, rfl, by simp, World.ownsRow_nil _ _ _ _, Below.refl _ _⟩
      case round =>
        obtain ⟨h, acc, hhn, rfl, hrch, hacc, hfa, howi, hbel2⟩ := hrel
        have hsz := hbel2.size
        have hal14 : acc.length ≤ 1000 := by omega
        by_cases hh : h = n
        · subst hh
          have e1 : plV h h = .iface 151 (.int .i64 h) := by simp [plV]
          have e2 : wayF h ch gk h = [(h : Int)] := by cases gk <;> simp [wayF]
          rw [e1]
          rw [e2] at hacc
          have HACC := Lib.hid hacc
          have HOI := Lib.hid howi
          clear hacc howi e1 e2 hrch HE
          go_wp2_with (at_builtin; refine app_int _ rfl (.tmp 37) (.tmp 39) rfl W1.heap.size u8 acc (h : Int) rfl (HOI.out.alloc _) wr.heap.size 1 rfl (by simp) (by omega) (by simp; omega) ?_; intro v2 w2 hown2 hgr2 hbk2; have hb2 : Below W1.heap.size W1 w2 := hbel2.trans (((Below.refl _ _).alloc hbel2.size _).trans (grown_below (HOI.out.alloc _) (by simp; omega) hgr2)))
          go_ret
          exact ⟨v2, rfl, by rw [← HACC.out]; exact own_base hown2 hbel.size, hbel.on hb2⟩
        · have hlt : h < n := by omega
          have e1 : plV n h = .iface 124 (.int .i64 h) := by simp only [plV]; rw [if_neg (by omega)]
          have hne : ((h : Int) == (n : Int)) = false := beq_eq_false_iff_ne.2 (by omega)
          obtain ⟨f, rfl⟩ : ∃ f, gk = f + 1 := by
            cases gk with
            | zero => simp only [reach] at hrch; rw [hne] at hrch; cases hrch
            | succ f => exact ⟨f, rfl⟩
          obtain ⟨t, ht, htn⟩ := next_in HO.out hlt
          have hr2 : reach n ch f (t : Int) = true := by
            simp only [reach] at hrch
            rw [hne, Bool.false_or, htn] at hrch
            exact hrch
          have e2 : wayF n ch (f + 1) h = (h : Int) :: wayF n ch f t := by
            have e3 : wayF n ch (f + 1) h = if (h : Int) = n then [(h : Int)] else (h : Int) :: wayF n ch f (nextG n ch h) := rfl
            rw [e3, if_neg (by omega), htn]
          rw [e2] at hacc
          have hcell := HOW.out.cellAt h (by omega)
          rw [HNX.out h hlt, htn] at hcell
          have hzW := (HOW.out.lt w.heap.size rfl).2
          have hcell2 := (hbel2.cell (p := ⟨w.heap.size, h, none⟩) hzW).trans hcell
          have hh6 : (h : Int) < 6 := by omega
          rw [e1]
          have HACC := Lib.hid hacc
          have HOI := Lib.hid howi
          have HR2 := Lib.hid hr2
          clear hacc howi e1 e2 hrch hr2 hcell hne htn HE
          go_wp2_with (at_builtin; refine app_int _ rfl (.tmp 27) (.tmp 29) rfl W1.heap.size u8 acc (h : Int) rfl (HOI.out.alloc _) wr.heap.size 1 rfl (by simp) (by omega) (by simp; omega) ?_; intro v2 w2 hown2 hgr2 hbk2; have hb2 : Below W1.heap.size W1 w2 := hbel2.trans (((Below.refl _ _).alloc hbel2.size _).trans (grown_below (HOI.out.alloc _) (by simp; omega) hgr2)); have hcell3 := (hb2.cell (p := ⟨w.heap.size, h, none⟩) hzW).trans ((hbel2.cell (p := ⟨w.heap.size, h, none⟩) hzW).symm.trans hcell2))
          go_roundg f
          case measure => omega
          case rel => exact ⟨t, acc ++ [(h : Int)], ht, rfl, HR2.out, by rw [← HACC.out]; simp, by simp; omega, hown2, hb2⟩
end Go.Proofs.YtadamjleglckpaaGreat.drn
