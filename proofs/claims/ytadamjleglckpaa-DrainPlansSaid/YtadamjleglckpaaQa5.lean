/- The reference of stage 2 plainly: the channel of a list from a gallery; ways; what a valid list is. -/
import Derived.Test.YtadamjleglckpaaQa4
import Derived.Test.YtadamjleglckpaaQa2
import Derived.BigQuiet
import Derived.Laws.EntriesVeiled
import Derived.Deep.LoopGhost
import Derived.OpenShut
import Derived.ProofKit
import Derived.Deep.Slices
import Derived.ChangeSlices
import Derived.Laws.IdiomArrays

namespace Go.Proofs.Ytadamjleglckpaa.drn
set_option linter.unusedSimpArgs false
set_option linter.unusedVariables false
/-- the first channel of a list that leads from a gallery, -1 if there is none -/
def fromS (cs : List Ch) (l : List Int) (g : Int) : Int := (l.find? fun i => frm cs i == g).getD (-1)
theorem fromS_pos {cs : List Ch} {l : List Int} (hin : InR cs l) (g : Int) : 0 ≤ fromS cs l g ↔ ∃ x ∈ l, frm cs x = g := by
  unfold fromS
  cases hf : l.find? fun i => frm cs i == g with
  | none =>
    have hn := List.find?_eq_none.1 hf
    refine ⟨fun h => by simp at h, fun ⟨x, hx, e⟩ => absurd (beq_iff_eq.2 e) (hn x hx)⟩
  | some x =>
    have hx := List.mem_of_find?_eq_some hf
    have he := List.find?_some hf
    refine ⟨fun _ => ⟨x, hx, beq_iff_eq.1 he⟩, fun _ => (hin x hx).1⟩
theorem fromS_next {n : Nat} {cs : List Ch} {l : List Int} (hin : InR cs l) {g : Int} (h : ∃ x ∈ l, frm cs x = g) :
    (0 ≤ fromS cs l g ∧ fromS cs l g < cs.length) ∧ nextG n (chosenS cs l) g = (cs.getD (fromS cs l g).toNat (0, 0, 0)).2.1 := by
  unfold fromS nextG chosenS
  rw [List.find?_map]
  cases hf : l.find? fun i => frm cs i == g with
  | none =>
    obtain ⟨x, hx, e⟩ := h
    exact absurd (beq_iff_eq.2 e) (List.find?_eq_none.1 hf x hx)
  | some x =>
    have hx := List.mem_of_find?_eq_some hf
    have hf2 : l.find? ((fun c : Ch => c.1 == g) ∘ fun i : Int => cs.getD i.toNat (0, 0, 0)) = some x := hf
    rw [hf2]
    exact ⟨hin x hx, rfl⟩
theorem wayF_last (n : Nat) (ch : List Ch) : ∀ (f : Nat) (g : Int), wayF n ch f g ≠ [] ∧ (((wayF n ch f g).getD ((wayF n ch f g).length - 1) 0 == (n : Int)) = reach n ch f g)
  | 0, g => by simp [wayF, reach]
  | f + 1, g => by
    have e3 : wayF n ch (f + 1) g = if g = n then [g] else g :: wayF n ch f (nextG n ch g) := rfl
    rw [e3]
    by_cases h : g = n
    · rw [if_pos h]
      refine ⟨by simp, ?_⟩
      simp [reach, h]
    · rw [if_neg h]
      obtain ⟨h1, h2⟩ := wayF_last n ch f (nextG n ch g)
      refine ⟨by simp, ?_⟩
      have hb : (g == (n : Int)) = false := beq_eq_false_iff_ne.2 h
      rw [reach, hb, Bool.false_or, ← h2]
      obtain ⟨x, r, e⟩ := List.exists_cons_of_ne_nil h1
      rw [e]
      simp
theorem addS_mem {n : Nat} {cs : List Ch} (hc : ∀ c ∈ cs, ChOk n c) : ∀ (l : List Int) (s : Nat), InR cs l → ∀ g : Nat, inS (addS cs s l) g = true ↔ inS s g = true ∨ ∃ x ∈ l, frm cs x = g
  | [], s, _, g => by simp [addS]
  | x :: r, s, hin, g => by
    have hx := hin x (by simp)
    have hok := getD_ok hc (i := x.toNat) (by omega)
    have hf0 : 0 ≤ frm cs x := hok.1.1
    have e : addS cs s (x :: r) = addS cs (s ||| 1 <<< (frm cs x).toNat) r := rfl
    rw [e, addS_mem hc r _ (fun y hy => hin y (by simp [hy])) g, inS_or, Bool.or_eq_true, inS_one, decide_eq_true_eq]
    constructor
    · rintro ((h | h) | ⟨y, hy, h⟩)
      · exact .inl h
      · exact .inr ⟨x, by simp, by omega⟩
      · exact .inr ⟨y, by simp [hy], h⟩
    · rintro (h | ⟨y, hy, h⟩)
      · exact .inl (.inl h)
      · rcases List.mem_cons.1 hy with rfl | hy
        · exact .inl (.inr (by omega))
        · exact .inr ⟨y, hy, h⟩
theorem addS_snoc (cs : List Ch) (s : Nat) (l : List Int) (x : Int) : addS cs s (l ++ [x]) = addS cs s l ||| 1 <<< (frm cs x).toNat := by unfold addS; rw [List.foldl_append]; rfl
/-- the number before a place -/
def prevS (l : List Int) (k : Nat) : Option Int := if k = 0 then none else some (l.getD (k - 1) 0)
/-- where the reference stands in a list -/
structure RAt (cs : List Ch) (l : List Int) (k : Nat) : Prop where
  inr : InR cs (l.take k)
  rest : planErr cs (prevS l k) (addS cs 0 (l.take k)) (l.drop k) = planErr cs none 0 l
theorem RAt.zero (cs : List Ch) (l : List Int) : RAt cs l 0 := ⟨by rw [List.take_zero]; exact fun x hx => (by cases hx), rfl⟩
/-- one number more -/
theorem RAt.step {n : Nat} {cs : List Ch} {l : List Int} {k : Nat} (hc : ∀ c ∈ cs, ChOk n c) (h : RAt cs l k) (hk : k < l.length) :
    (isGal cs.length (l.getD k 0) = false → (planErr cs none 0 l).1 = 2) ∧
    (isGal cs.length (l.getD k 0) = true → notUp (prevS l k) (l.getD k 0) = true → (planErr cs none 0 l).1 = 7) ∧
    (isGal cs.length (l.getD k 0) = true → notUp (prevS l k) (l.getD k 0) = false → 0 ≤ fromS cs (l.take k) (frm cs (l.getD k 0)) → (planErr cs none 0 l).1 = 6) ∧
    (isGal cs.length (l.getD k 0) = true → notUp (prevS l k) (l.getD k 0) = false → ¬ 0 ≤ fromS cs (l.take k) (frm cs (l.getD k 0)) → RAt cs l (k + 1)) := by
  have hat := planErr_at cs l k hk (prevS l k) (addS cs 0 (l.take k))
  rw [h.rest] at hat
  have hfr : isGal cs.length (l.getD k 0) = true → (0 ≤ fromS cs (l.take k) (frm cs (l.getD k 0)) ↔ inS (addS cs 0 (l.take k)) (cs.getD (l.getD k 0).toNat (0, 0, 0)).1 = true) := by
    intro hg
    have hg2 := (isGal_iff _ _).1 hg
    have hok := getD_ok hc (i := (l.getD k 0).toNat) (by omega)
    have hf0 : 0 ≤ frm cs (l.getD k 0) := hok.1.1
    rw [fromS_pos h.inr]
    have := addS_mem hc (l.take k) 0 h.inr (frm cs (l.getD k 0)).toNat
    have ef : (((frm cs (l.getD k 0)).toNat : Nat) : Int) = frm cs (l.getD k 0) := by omega
    rw [ef] at this
    have e2 : (cs.getD (l.getD k 0).toNat (0, 0, 0)).1 = frm cs (l.getD k 0) := rfl
    rw [e2, this]
    constructor
    · exact .inr
    · rintro (h | h)
      · simp [inS] at h
      · exact h
  refine ⟨fun h1 => ?_, fun h1 h2 => ?_, fun h1 h2 h3 => ?_, fun h1 h2 h3 => ?_⟩
  · rw [hat, h1]; rfl
  · rw [hat, h1, h2]; rfl
  · rw [hat, h1, h2, (hfr h1).1 h3]; rfl
  · have hn : inS (addS cs 0 (l.take k)) (cs.getD (l.getD k 0).toNat (0, 0, 0)).1 = false := by
      cases hq : inS (addS cs 0 (l.take k)) (cs.getD (l.getD k 0).toNat (0, 0, 0)).1 with
      | true => exact absurd ((hfr h1).2 hq) h3
      | false => rfl
    have htk : l.take (k + 1) = l.take k ++ [l.getD k 0] := getD_take l k 0 hk
    refine ⟨?_, ?_⟩
    · rw [htk]
      intro x hx
      rcases List.mem_append.1 hx with hx | hx
      · exact h.inr x hx
      · rw [List.mem_singleton] at hx; subst hx
        exact (isGal_iff _ _).1 h1
    · rw [htk, addS_snoc, hat, h1, h2, hn]
      unfold prevS
      rw [if_neg (by omega), Nat.add_sub_cancel]
      rfl
/-- behind the whole list -/
theorem RAt.done {n : Nat} {cs : List Ch} {l : List Int} (hE : errD n cs = 0) (hc : Chs n cs) (h : RAt cs l l.length) :
    InR cs l ∧ validOf n cs l = (if l.length < n then 21 else if (List.range n).all (fun g => reach n (chosenS cs l) n g) then 0 else 13) ∧ (¬ l.length < n → OneEach n (chosenS cs l) ∧ ∀ g : Nat, g < n → ∃ x ∈ l, frm cs x = g) := by
  have hr := h.rest
  rw [List.take_length, List.drop_length, planErr] at hr
  have hin := h.inr
  rw [List.take_length] at hin
  obtain ⟨k1, k2⟩ := planErr_iff cs l none 0 (by simp)
  have h0 : (planErr cs none 0 l).1 = 0 := by rw [← hr]
  have hx : Ext cs 0 0 l := k1.1 h0
  have hfull := Ext.full hc.n6 hc.ok hx
  refine ⟨hin, ?_, fun hl => ?_⟩
  · unfold validOf
    rw [if_neg (fun x => x hE), if_neg (fun x => x h0), k2 h0]
    by_cases hl : l.length < n
    · rw [if_pos hl, if_pos (fun e => by have := hfull.2.1 e; omega)]
    · have he : addS cs 0 l = allS n := hfull.2.2 (by omega)
      rw [if_neg hl, if_neg (fun x => x he)]
      have hw := wet_ways hc.n6 (each_of hc.ok hx he)
      have hall : (List.range n).all (fun g : Nat => reach n (chosenS cs l) n g) = true ↔ ∀ g : Nat, g < n → reach n (chosenS cs l) n g = true := by
        rw [List.all_eq_true]
        exact ⟨fun h g hg => h g (List.mem_range.2 hg), fun h g hg => h g (List.mem_range.1 hg)⟩
      by_cases hwe : wetS n (chosenS cs l) = allS n
      · rw [if_neg (fun x => x hwe), if_pos (hall.2 (hw.1 hwe))]
      · rw [if_pos hwe, if_neg (fun x => hwe (hw.2 (hall.1 x)))]
  · have he : addS cs 0 l = allS n := hfull.2.2 (by omega)
    have ho := each_of hc.ok hx he
    refine ⟨ho, fun g hg => ?_⟩
    obtain ⟨c, hcm, h1⟩ := ho.2.1 g hg
    obtain ⟨x, hxm, rfl⟩ := List.mem_map.1 hcm
    exact ⟨x, hxm, h1⟩
end Go.Proofs.Ytadamjleglckpaa.drn

/- The reference of stage 2, walked: in, Check, from, cost. -/
namespace Go.Proofs.Ytadamjleglckpaa.drn
open Go.RowKit
set_option linter.unusedSimpArgs false
set_option linter.unusedVariables false
def inB (a b c : Int) : Bool := decide (b ≤ a) && decide (a ≤ c)
theorem cell_lt' {w : World} {b o : Nat} {v : Value} (h : w.cell? ⟨b, o, none⟩ = some v) : b < w.heap.size := by
  unfold World.cell? at h
  split at h
  · rename_i c e f hh
    exact (Array.getElem?_eq_some_iff.1 hh).1
  · cases h
theorem inB_iff (a b c : Int) : inB a b c = true ↔ b ≤ a ∧ a ≤ c := by simp [inB]
theorem rin_any (a b c : Int) (w : World) : Calls Try.prog 43 #[.int .i64 a, .int .i64 b, .int .i64 c] w fun e w' => e = .returned (.bool (inB a b c)) ∧ w = w' := by
  by_cases h1 : b ≤ a
  · by_cases h2 : a ≤ c
    · go_enter Try.func43, Try.ntmps43
      go_wp2
      go_ret
      exact ⟨ret_bool (by simp [inB, h1, h2]), rfl⟩
    · go_enter Try.func43, Try.ntmps43
      go_wp2
      go_ret
      exact ⟨ret_bool (by simp [inB, h1, h2]), rfl⟩
  · go_enter Try.func43, Try.ntmps43
    go_wp2
    go_ret
    exact ⟨ret_bool (by unfold inB; rw [decide_eq_false (show ¬ b ≤ a by omega)]; rfl), rfl⟩
theorem rin_is {a b c : Int} {v : Bool} (h : inB a b c = v) (w : World) : Calls Try.prog 43 #[.int .i64 a, .int .i64 b, .int .i64 c] w fun e w' => e = .returned (.bool v) ∧ w = w' := by
  subst h; exact rin_any a b c w
theorem chErr_in {n : Int} (hn : 1 ≤ n) (a b x : Int) : chErr n (a, b, x) = if inB a 0 (n - 1) = false then 2 else if inB b 0 n = false then 2 else if (a == b) = true then 13 else if inB x 0 20 = false then 1 else 0 := by
  have e1 : isGal n a = inB a 0 (n - 1) := by unfold isGal inB; rw [show decide (a < n) = decide (a ≤ n - 1) from decide_eq_decide.2 ⟨fun _ => by omega, fun _ => by omega⟩]
  have e2 : (!isGal n b && b != n) = !inB b 0 n := by
    apply Bool.eq_iff_iff.2
    unfold isGal inB
    simp <;> omega
  have e3 : (decide (x < 0) || decide (20 < x)) = !inB x 0 20 := by
    apply Bool.eq_iff_iff.2
    unfold inB
    simp <;> omega
  unfold chErr
  dsimp only
  rw [e1, e2, e3]
  cases inB a 0 (n - 1) <;> cases inB b 0 n <;> cases inB x 0 20 <;> simp
set_option maxRecDepth 100000 in
set_option maxHeartbeats 4000000 in
theorem rCheck_any (n : Int) (q : Option Addr) (cap : Nat) (cs : List Ch) (w : World) (hr : RowV w q (flatT cs)) :
    Calls Try.prog 51 #[hillV n q cs.length cap] w fun e w' => e = .returned (.int .i64 (errD n cs)) ∧ Below w.heap.size w w' := by
  unfold hillV
  have hb0 : Below w.heap.size w (w.alloc (.cells #[.int .i64 n, .slice q cs.length cap] 28)) := (Below.refl _ _).alloc (Nat.le_refl _) _
  by_cases hn : n < 1 ∨ 6 < n
  · have hi := fun W => rin_is (a := n) (b := 1) (c := 6) (v := false) (by cases h : inB n 1 6 with | false => rfl | true => have := (inB_iff _ _ _).1 h; omega) W
    have HI := Lib.hid hi
    have he : errD n cs = 1 := by rw [errD, if_pos hn]
    rw [he]
    clear hi he hn
    go_enter Try.func51, Try.ntmps51
    go_wp2_with (go_at_call 43; refine (HI.out _).mono ?_; rintro e w1 ⟨rfl, rfl⟩)
    go_ret
    exact ⟨rfl, hb0⟩
  · have hi := fun W => rin_is (a := n) (b := 1) (c := 6) (v := true) ((inB_iff _ _ _).2 (by omega)) W
    have HI := Lib.hid hi
    by_cases h14 : 14 < cs.length
    · have h14' : (14 : Int) < (cs.length : Int) := by omega
      have he : errD n cs = 3 := by rw [errD, if_neg hn, if_pos h14]
      rw [he]
      clear hi he hn
      go_enter Try.func51, Try.ntmps51
      go_wp2_with (go_at_call 43; refine (HI.out _).mono ?_; rintro e w1 ⟨rfl, rfl⟩)
      go_ret
      exact ⟨rfl, hb0⟩
    · have h14' : ¬ (14 : Int) < (cs.length : Int) := by omega
      have hd : errD n cs = csErr n [] cs := by rw [errD, if_neg hn, if_neg h14]
      have hr0 := hr.below (Nat.le_refl _) hb0
      have HD := Lib.hid hd
      have hn1 : 1 ≤ n := by omega
      have hn6 : n ≤ 6 := by omega
      have hwn : IntKind.i64.wrap (n - 1) = n - 1 := IntWalk.i64_in _ ⟨by omega, by omega⟩
      have HWN := Lib.hid hwn
      have HN := Lib.hid hn1
      have HR0 := Lib.hid hr0
      have HBB := Lib.hid hb0
      clear hn hd hi hwn hr hr0 hb0
      go_enter Try.func51, Try.ntmps51
      go_upto_region 5 with (go_at_call 43; refine (HI.out _).mono ?_; rintro e w1 ⟨rfl, rfl⟩)
      clear h14' HI
      obtain ⟨B, hB⟩ : ∃ B, w.heap.size = B := ⟨_, rfl⟩
      have hc0 : (w.alloc (.cells #[.int .i64 n, .slice q cs.length cap] 28)).cell? ⟨B, 0, none⟩ = some (.int .i64 n) ∧ (w.alloc (.cells #[.int .i64 n, .slice q cs.length cap] 28)).cell? ⟨B, 1, none⟩ = some (.slice q cs.length cap) := by rw [← hB]; simp
      have hz0 : B < (w.alloc (.cells #[.int .i64 n, .slice q cs.length cap] 28)).heap.size := by rw [← hB]; simp
      rw [hB]
      have HB := Lib.hid hB
      generalize (w.alloc (.cells #[.int .i64 n, .slice q cs.length cap] 28)) = W0 at *
      clear hB
      obtain ⟨c0, c1⟩ := hc0
      go_wp2
      go_loopw [3] (fun i wr => ∃ k : Nat, k ≤ cs.length ∧ i = .int .i64 k ∧ Hid (csErr n (cs.take k) (cs.drop k) = csErr n [] cs) ∧ Below W0.heap.size W0 wr) (fun i _ => cs.length - (intOf i).toNat)
      case atStart => exact ⟨0, Nat.zero_le _, rfl, Lib.hid rfl, Below.refl _ _⟩
      case round =>
        obtain ⟨k, hk, rfl, HRS, hbel⟩ := hrel
        have d0 := (hbel.cell (p := ⟨B, 0, none⟩) hz0).trans c0
        have d1 := (hbel.cell (p := ⟨B, 1, none⟩) hz0).trans c1
        by_cases hlt : k < cs.length
        · obtain ⟨b, off, rfl, hb, h1, h2, h3⟩ := rowT_at HR0.out hlt (Nat.le_refl _) hbel
          have hst := csErr_at n cs k hlt
          rw [HRS.out, ← HD.out] at hst
          obtain ⟨g, hg⟩ : ∃ g, cs.getD k (0, 0, 0) = g := ⟨_, rfl⟩
          rw [hg] at h1 h2 h3 hst
          obtain ⟨x, y, z⟩ := g
          dsimp only at h1 h2 h3
          have hce := chErr_in HN.out x y z
          have hki : (k : Int) < (cs.length : Int) := by omega
          have HST := Lib.hid hst
          have HCE := Lib.hid hce
          have hA : Below wr.heap.size wr (wr.alloc (.cells #[.int .i64 x, .int .i64 y, .int .i64 z] 45)) := (Below.refl _ _).alloc (Nat.le_refl _) _
          clear hst hce hg
          go_upto_region 9 with fail
          obtain ⟨WA, hWA⟩ : ∃ WA, wr.alloc (.cells #[.int .i64 x, .int .i64 y, .int .i64 z] 45) = WA := ⟨_, rfl⟩
          obtain ⟨C, hC⟩ : ∃ C, wr.heap.size = C := ⟨_, rfl⟩
          rw [hWA] at hA ⊢
          have s0 : WA.cell? ⟨C, 0, none⟩ = some (.int .i64 x) := by rw [← hWA, ← hC]; simp
          have s1 : WA.cell? ⟨C, 1, none⟩ = some (.int .i64 y) := by rw [← hWA, ← hC]; simp
          have s2 : WA.cell? ⟨C, 2, none⟩ = some (.int .i64 z) := by rw [← hWA, ← hC]; simp
          rw [hC]
          have e0 := (hA.cell (p := ⟨B, 0, none⟩) (Nat.lt_of_lt_of_le hz0 hbel.size)).trans d0
          have e1 := (hA.cell (p := ⟨B, 1, none⟩) (Nat.lt_of_lt_of_le hz0 hbel.size)).trans d1
          have hbA := hbel.on hA
          have hwn := HWN.out
          have hfin := HBB.out.on hbA
          clear hWA hC hA d0 d1 h1 h2 h3 hbel
          obtain ⟨bA, hA1⟩ : ∃ v, inB x 0 (n - 1) = v := ⟨_, rfl⟩
          have HA1 := Lib.hid (fun W => rin_is hA1 W)
          have HHA := Lib.hid hA1
          obtain ⟨bB, hB1⟩ : ∃ v, inB y 0 n = v := ⟨_, rfl⟩
          have HB1 := Lib.hid (fun W => rin_is hB1 W)
          have HHB := Lib.hid hB1
          obtain ⟨bC, hC1⟩ : ∃ v, inB z 0 20 = v := ⟨_, rfl⟩
          have HC1 := Lib.hid (fun W => rin_is hC1 W)
          have HHC := Lib.hid hC1
          clear hA1 hB1 hC1
          rw [HHA.out, HHB.out, HHC.out] at HCE
          cases bA with
          | false =>
            have hne := HCE.out
            rw [if_pos rfl] at hne
            have hres := HST.out
            rw [hne, if_pos (by decide)] at hres
            have HRE := Lib.hid hres
            clear hne hres
            go_wp2_with (go_at_call 43; with_reducible refine (HA1.out _).mono ?_; rintro e w1 ⟨rfl, rfl⟩)
            go_ret
            exact ⟨ret_int HRE.out.symm, hfin⟩
          | true =>
            rw [if_neg (by decide)] at HCE
            cases bB with
            | false =>
              have hne := HCE.out
              rw [if_pos rfl] at hne
              have hres := HST.out
              rw [hne, if_pos (by decide)] at hres
              have HRE := Lib.hid hres
              clear hne hres
              go_wp2_with (first
                | (go_at_call 43; with_reducible refine (HA1.out _).mono ?_; rintro e w1 ⟨rfl, rfl⟩)
                | (go_at_call 43; with_reducible refine (HB1.out _).mono ?_; rintro e w1 ⟨rfl, rfl⟩))
              go_ret
              exact ⟨ret_int HRE.out.symm, hfin⟩
            | true =>
              rw [if_neg (by decide)] at HCE
              go_upto_region 11 with (first
                | (go_at_call 43; with_reducible refine (HA1.out _).mono ?_; rintro e w1 ⟨rfl, rfl⟩)
                | (go_at_call 43; with_reducible refine (HB1.out _).mono ?_; rintro e w1 ⟨rfl, rfl⟩))
              cases hxy : (x == y) with
              | true =>
                have hne := HCE.out
                rw [hxy, if_pos rfl] at hne
                have hres := HST.out
                rw [hne, if_pos (by decide)] at hres
                have HRE := Lib.hid hres
                clear hne hres
                go_wp2
                go_ret
                exact ⟨ret_int HRE.out.symm, hfin⟩
              | false =>
                rw [hxy, if_neg (by decide)] at HCE
                cases bC with
                | false =>
                  have hne := HCE.out
                  rw [if_pos rfl] at hne
                  have hres := HST.out
                  rw [hne, if_pos (by decide)] at hres
                  have HRE := Lib.hid hres
                  clear hne hres
                  go_wp2_with (go_at_call 43; with_reducible refine (HC1.out _).mono ?_; rintro e w1 ⟨rfl, rfl⟩)
                  go_ret
                  exact ⟨ret_int HRE.out.symm, hfin⟩
                | true =>
                  have hne := HCE.out
                  rw [if_neg (by decide)] at hne
                  have hres := HST.out
                  rw [hne, if_neg (by decide)] at hres
                  have HRES := Lib.hid hres
                  have hrow := HR0.out.below (Nat.le_refl _) hbA
                  have HROW := Lib.hid hrow
                  clear hne hres hrow
                  go_upto_region 15 with (go_at_call 43; with_reducible refine (HC1.out _).mono ?_; rintro e w1 ⟨rfl, rfl⟩)
                  go_wp2
                  have hCz : C < WA.heap.size := cell_lt' s0
                  go_loopw [5] (fun i wl => ∃ j : Nat, j ≤ k ∧ i = .int .i64 j ∧ Hid (AllNo (sameEnds (x, y, z)) (cs.take k) j) ∧ Below WA.heap.size WA wl) (fun i _ => k - (intOf i).toNat)
                  case atStart => exact ⟨0, Nat.zero_le _, rfl, Lib.hid (AllNo.zero _ _), Below.refl _ _⟩
                  case round =>
                    obtain ⟨j, hj, rfl, HAN, hbi⟩ := hrel
                    by_cases hjk : j < k
                    · obtain ⟨b', off', e', hb', g1, g2, g3⟩ := rowT_at HROW.out (k := j) (by omega) (Nat.le_refl _) hbi
                      simp only [Option.some.injEq, Addr.mk.injEq] at e'
                      obtain ⟨rfl, rfl, _⟩ := e'
                      have t0 := (hbi.cell (p := ⟨C, 0, none⟩) hCz).trans s0
                      have t1 := (hbi.cell (p := ⟨C, 1, none⟩) hCz).trans s1
                      have r1 := (hbi.cell (p := ⟨B, 1, none⟩) (cell_lt' e1)).trans e1
                      have htl : (cs.take k).getD j (0, 0, 0) = cs.getD j (0, 0, 0) := by
                        rw [getD_eq _ j _ (by rw [List.length_take]; omega), getD_eq cs j _ (by omega), List.getElem_take]
                      have hstp := (HAN.out.step (k := j) (by rw [List.length_take]; omega) (0, 0, 0)).1
                      have hmem := getD_mem (cs.take k) j (0, 0, 0) (by rw [List.length_take]; omega)
                      rw [htl] at hstp hmem
                      generalize cs.getD j (0, 0, 0) = d at g1 g2 g3 hstp hmem
                      obtain ⟨d1, d2, d3⟩ := d
                      dsimp only at g1 g2 g3
                      have hse : sameEnds (x, y, z) (d1, d2, d3) = (d1 == x && d2 == y) := rfl
                      rw [hse] at hstp
                      have hjki : (j : Int) < (k : Int) := by omega
                      have hjli : (j : Int) < (cs.length : Int) := by omega
                      have HSTP := Lib.hid hstp
                      have HMEM := Lib.hid hmem
                      have HBI := Lib.hid hbi
                      clear hstp hse htl hmem hbi
                      go_upto_region 18 with fail
                      cases hd1 : (d1 == x) with
                      | false =>
                        rw [hd1, Bool.false_and] at HSTP
                        have HNE := Lib.hid (HSTP.out rfl)
                        go_quiet (fail)
                        go_wp2
                        go_roundw
                        case rel => exact ⟨j + 1, hjk, by go_num, HNE, below_drewN HBI.out _⟩
                        case measure => simp [intOf]; omega
                      | true =>
                        rw [hd1, Bool.true_and] at HSTP
                        cases hd2 : (d2 == y) with
                        | false =>
                          rw [hd2] at HSTP
                          have HNE := Lib.hid (HSTP.out rfl)
                          go_quiet (fail)
                          go_wp2
                          go_roundw
                          case rel => exact ⟨j + 1, hjk, by go_num, HNE, below_drewN HBI.out _⟩
                          case measure => simp [intOf]; omega
                        | true =>
                          have hany : (cs.take k).any (sameEnds (x, y, z)) = true := List.any_eq_true.2 ⟨_, HMEM.out, by show (d1 == x && d2 == y) = true; rw [hd1, hd2]; rfl⟩
                          have hre := HRES.out
                          rw [if_pos hany] at hre
                          have HRE := Lib.hid hre
                          clear hany hre
                          go_quiet (fail)
                          go_wp2
                          go_ret
                          exact ⟨ret_int HRE.out.symm, hfin.on (below_drewN HBI.out _)⟩
                    · obtain rfl : k = j := by omega
                      have hany : (cs.take k).any (sameEnds (x, y, z)) = false := by
                        have h9 := HAN.out
                        unfold AllNo at h9
                        rw [List.take_take, Nat.min_self] at h9
                        rw [List.any_eq_false]
                        intro d hd
                        have := List.all_eq_true.1 h9 d hd
                        simpa using this
                      have hre := HRES.out
                      rw [if_neg (by rw [hany]; decide)] at hre
                      have HRE := Lib.hid (show csErr n (cs.take (k + 1)) (cs.drop (k + 1)) = csErr n [] cs from by rw [← hre]; exact HD.out)
                      clear hany hre
                      go_wp2
                      go_roundw
                      case rel => exact ⟨k + 1, hlt, by go_num, HRE, hbA.on hbi⟩
                      case measure => simp [intOf]; omega
        · obtain rfl : k = cs.length := by omega
          have hrs := HRS.out
          rw [List.take_length, List.drop_length, ← HD.out] at hrs
          have hrs2 : errD n cs = 0 := by rw [← hrs]; rfl
          have HRE := Lib.hid hrs2
          clear hrs hrs2
          go_wp2
          go_ret
          exact ⟨ret_int HRE.out.symm, HBB.out.on hbel⟩
theorem find_at' {α : Type} (f : α → Bool) : ∀ (l : List α) (k : Nat) (d : α), AllNo f l k → k < l.length → f (l.getD k d) = true → l.find? f = some (l.getD k d)
  | [], k, d, _, h, _ => by simp at h
  | x :: r, 0, d, _, _, h => by simp at h; simp [h]
  | x :: r, k + 1, d, h, hk, hf => by
    unfold AllNo at h
    rw [List.take_succ_cons, List.all_cons, Bool.and_eq_true] at h
    have ih := find_at' f r k d h.2 (by simpa using hk) (by simpa using hf)
    rw [List.find?_cons, show f x = false by simpa using h.1]
    simpa using ih
theorem find_none' {α : Type} {f : α → Bool} {l : List α} (h : AllNo f l l.length) : l.find? f = none := by
  unfold AllNo at h
  rw [List.take_length] at h
  rw [List.find?_eq_none]
  intro x hx
  have := List.all_eq_true.1 h x hx
  simpa using this
set_option maxRecDepth 100000 in
set_option maxHeartbeats 4000000 in
theorem rfrom_any (n : Int) (q : Option Addr) (cap : Nat) (cs : List Ch) (q2 : Option Addr) (c2 : Nat) (l : List Int) (g : Int) (w : World) (hr : RowV w q (flatT cs)) (hr2 : RowV w q2 (flatI l)) (hin : InR cs l) (hl : l.length ≤ 1000) :
    Calls Try.prog 52 #[hillV n q cs.length cap, .slice q2 l.length c2, .int .i64 g] w fun e w' => e = .returned (.int .i64 (fromS cs l g)) ∧ Below w.heap.size w w' := by
  unfold hillV
  have hb0 : Below w.heap.size w (w.alloc (.cells #[.int .i64 n, .slice q cs.length cap] 28)) := (Below.refl _ _).alloc (Nat.le_refl _) _
  have HR := Lib.hid (hr.below (Nat.le_refl _) hb0)
  have HR2 := Lib.hid (hr2.below (Nat.le_refl _) hb0)
  have HIN := Lib.hid hin
  have HBB := Lib.hid hb0
  clear hr hr2 hin hb0
  go_enter Try.func52, Try.ntmps52
  go_upto_region 1 with fail
  obtain ⟨B, hB⟩ : ∃ B, w.heap.size = B := ⟨_, rfl⟩
  have c1 : (w.alloc (.cells #[.int .i64 n, .slice q cs.length cap] 28)).cell? ⟨B, 1, none⟩ = some (.slice q cs.length cap) := by rw [← hB]; simp
  rw [hB]
  generalize (w.alloc (.cells #[.int .i64 n, .slice q cs.length cap] 28)) = W0 at *
  clear hB
  go_wp2
  go_loopw [7] (fun i wl => ∃ k : Nat, k ≤ l.length ∧ i = .int .i64 k ∧ Hid (AllNo (fun i => frm cs i == g) l k) ∧ Below W0.heap.size W0 wl) (fun i _ => l.length - (intOf i).toNat)
  case atStart => exact ⟨0, Nat.zero_le _, rfl, Lib.hid (AllNo.zero _ _), Below.refl _ _⟩
  case round =>
    obtain ⟨k, hk, rfl, HAN, hbl⟩ := hrel
    by_cases hkl : k < l.length
    · obtain ⟨b3, off3, rfl, hb3, hx⟩ := rowI_at HR2.out hkl (Nat.le_refl _) hbl
      have hxr := HIN.out _ (getD_mem l k 0 hkl)
      have hst := HAN.out.step hkl 0
      have hfa := find_at' (fun i => frm cs i == g) l k 0 HAN.out hkl
      obtain ⟨X, hX⟩ : ∃ X : Nat, l.getD k 0 = X := ⟨(l.getD k 0).toNat, by omega⟩
      rw [hX] at hx hxr hst hfa
      obtain ⟨b4, off4, rfl, hb4, g1, g2, g3⟩ := rowT_at HR.out (k := X) (by omega) (Nat.le_refl _) hbl
      have hfr : frm cs (X : Int) = (cs.getD X (0, 0, 0)).1 := by unfold frm; rw [Int.toNat_natCast]
      rw [hfr] at hst hfa
      generalize (cs.getD X (0, 0, 0)).1 = y at g1 hst hfa
      have d1 := (hbl.cell (p := ⟨B, 1, none⟩) (cell_lt' c1)).trans c1
      have hki : (k : Int) < (l.length : Int) := by omega
      have hXi : (X : Int) < (cs.length : Int) := by omega
      have HST := Lib.hid hst
      have HFA := Lib.hid hfa
      have HBL := Lib.hid hbl
      clear hst hfa hfr hxr hX g2 g3 hbl
      go_upto_region 4 with fail
      cases hyg : (y == g) with
      | true =>
        have hre : fromS cs l g = X := by unfold fromS; rw [HFA.out hyg]; rfl
        have HRE := Lib.hid hre
        clear hre
        go_quiet (fail)
        go_wp2
        go_ret
        exact ⟨ret_int HRE.out.symm, HBB.out.on (below_drewN HBL.out _)⟩
      | false =>
        have HNE := Lib.hid (HST.out.1 hyg)
        go_quiet (fail)
        go_wp2
        go_roundw
        case rel => exact ⟨k + 1, hkl, by go_num, HNE, below_drewN HBL.out _⟩
        case measure => simp [intOf]; omega
    · obtain rfl : k = l.length := by omega
      have hre : fromS cs l g = -1 := by unfold fromS; rw [find_none' HAN.out]; rfl
      have HRE := Lib.hid hre
      clear hre
      go_wp2
      go_ret
      exact ⟨ret_int HRE.out.symm, HBB.out.on hbl⟩
theorem costS_take (cs : List Ch) (l : List Int) {k : Nat} (h : k < l.length) : costS cs (l.take (k + 1)) = costS cs (l.take k) + (cs.getD (l.getD k 0).toNat (0, 0, 0)).2.2 := by
  unfold costS
  rw [getD_take l k 0 h, List.foldl_append]
  rfl
set_option maxRecDepth 100000 in
set_option maxHeartbeats 4000000 in
theorem rcost_any (n : Nat) (q : Option Addr) (cap : Nat) (cs : List Ch) (q2 : Option Addr) (c2 : Nat) (l : List Int) (w : World) (hc : Chs n cs) (hr : RowV w q (flatT cs)) (hr2 : RowV w q2 (flatI l)) (hin : InR cs l) (hl : l.length ≤ 1000) :
    Calls Try.prog 37 #[hillV n q cs.length cap, .slice q2 l.length c2] w fun e w' => e = .returned (.int .i64 (costS cs l)) ∧ Below w.heap.size w w' := by
  unfold hillV
  have hb0 : Below w.heap.size w (w.alloc (.cells #[.int .i64 n, .slice q cs.length cap] 28)) := (Below.refl _ _).alloc (Nat.le_refl _) _
  have HR := Lib.hid (hr.below (Nat.le_refl _) hb0)
  have HR2 := Lib.hid (hr2.below (Nat.le_refl _) hb0)
  have HIN := Lib.hid hin
  have HBB := Lib.hid hb0
  have HC := Lib.hid hc
  clear hr hr2 hin hb0 hc
  go_enter Try.func37, Try.ntmps37
  go_upto_region 1 with fail
  obtain ⟨B, hB⟩ : ∃ B, w.heap.size = B := ⟨_, rfl⟩
  have c1 : (w.alloc (.cells #[.int .i64 n, .slice q cs.length cap] 28)).cell? ⟨B, 1, none⟩ = some (.slice q cs.length cap) := by rw [← hB]; simp
  rw [hB]
  generalize (w.alloc (.cells #[.int .i64 n, .slice q cs.length cap] 28)) = W0 at *
  clear hB
  go_wp2
  go_loopw [5, 6] (fun s i wl => ∃ k : Nat, k ≤ l.length ∧ i = .int .i64 k ∧ s = .int .i64 (costS cs (l.take k)) ∧ Below W0.heap.size W0 wl) (fun _ i _ => l.length - (intOf i).toNat)
  case atStart => exact ⟨0, Nat.zero_le _, rfl, rfl, Below.refl _ _⟩
  case round =>
    obtain ⟨k, hk, rfl, rfl, hbl⟩ := hrel
    by_cases hkl : k < l.length
    · obtain ⟨b3, off3, rfl, hb3, hx⟩ := rowI_at HR2.out hkl (Nat.le_refl _) hbl
      have hxr := HIN.out _ (getD_mem l k 0 hkl)
      have hst := costS_take cs l hkl
      have hbd := costS_bd HC.out.ok (l.take k)
      rw [List.length_take] at hbd
      obtain ⟨X, hX⟩ : ∃ X : Nat, l.getD k 0 = X := ⟨(l.getD k 0).toNat, by omega⟩
      rw [hX] at hx hxr hst
      rw [Int.toNat_natCast] at hst
      obtain ⟨b4, off4, rfl, hb4, g1, g2, g3⟩ := rowT_at HR.out (k := X) (by omega) (Nat.le_refl _) hbl
      have hok := getD_ok HC.out.ok (i := X) (by omega)
      have hok3 := hok.2.2.2
      generalize (cs.getD X (0, 0, 0)).2.2 = y at g3 hst hok3
      generalize costS cs (l.take k) = s at hst hbd ⊢
      have hws : IntKind.i64.wrap (s + y) = s + y := IntWalk.i64_in _ ⟨by omega, by omega⟩
      have d1 := (hbl.cell (p := ⟨B, 1, none⟩) (cell_lt' c1)).trans c1
      have hki : (k : Int) < (l.length : Int) := by omega
      have hXi : (X : Int) < (cs.length : Int) := by omega
      have HST := Lib.hid hst
      have HBL := Lib.hid hbl
      clear hst hxr hX g1 g2 hbl hok
      go_upto_region 5 with fail
      go_quiet (fail)
      go_wp2
      go_roundw
      case rel => exact ⟨k + 1, hkl, by go_num, by rw [HST.out], below_drewN HBL.out _⟩
      case measure => simp [intOf]; omega
    · obtain rfl : k = l.length := by omega
      rw [List.take_length]
      go_wp2
      go_ret
      exact ⟨rfl, HBB.out.on hbl⟩
end Go.Proofs.Ytadamjleglckpaa.drn

/- Package drain, the walks: Narrow. -/
namespace Go.Proofs.Ytadamjleglckpaa.drn
open Go.RowKit
set_option linter.unusedSimpArgs false
set_option linter.unusedVariables false

theorem Narrow1_any (n s B : Nat) (cs : List Ch) (w : World) (hc : Chs n cs) (hs : s < 2 ^ n) (hB : ChsAt w B n cs) :
    Calls Try.prog 59 #[.int .u64 s, .pointer (some ⟨B, 0, none⟩)] w fun e w' => e = .returned (.int .i64 (leavingS cs s).length) ∧ Below w.heap.size w w' := by
  obtain ⟨q, cap, h1, h2, h3⟩ := hB
  go_enter Try.func59, Try.ntmps59
  go_wp2_with (go_at_call 60; refine (leaving_any n s q cap cs w hc hs h3).mono ?_; rintro e w5 ⟨v5, rfl, hown5, hb5⟩; obtain ⟨q5, c5, rfl, hrow5, hq5, hqb5⟩ := rowV_of_owns hown5 (by intro h; rw [List.length_eq_zero_iff] at h; rw [h]; rfl))
  go_ret
  exact ⟨rfl, hb5⟩
/-- a function value in a block, which another closure has captured -/
def FunAt (w : World) (B C : Nat) : Prop := B < w.heap.size ∧ w.cell? ⟨B, 0, none⟩ = some (.func (.func 59) #[] #[.pointer (some ⟨C, 0, none⟩)])
theorem FunAt.below {w w' : World} {B C : Nat} (h : FunAt w B C) {N : Nat} (hN : w.heap.size ≤ N) (hb : Below N w w') : FunAt w' B C :=
  ⟨Nat.lt_of_lt_of_le h.1 hb.size, (hb.cell (p := ⟨B, 0, none⟩) (Nat.lt_of_lt_of_le h.1 hN)).trans h.2⟩
set_option maxRecDepth 100000 in
set_option maxHeartbeats 1000000 in
theorem Narrow2_any (n s t B C : Nat) (cs : List Ch) (w : World) (hc : Chs n cs) (hs : s < 2 ^ n) (ht : t < 2 ^ n) (hC : ChsAt w C n cs) (hB : FunAt w B C) :
    Calls Try.prog 63 #[.int .u64 s, .int .u64 t, .pointer (some ⟨B, 0, none⟩)] w fun e w' => (∃ c : Int, e = .returned (.int .i64 c) ∧ (c < 0 ↔ (leavingS cs s).length < (leavingS cs t).length)) ∧ Below w.heap.size w w' := by
  obtain ⟨z0, c0⟩ := hB
  have hn1 := fun W s hs hb => Narrow1_any n s C cs W hc hs (hC.below (Nat.le_refl _) hb)
  have HN := Lib.hid hn1
  clear hn1
  go_enter Try.func63, Try.ntmps63
  go_wp2
  go_region_held3 (fun W => W.cell? ⟨B, 0, none⟩ = some (.func (.func 59) #[] #[.pointer (some ⟨C, 0, none⟩)])) (first | exact c0 | exact d0 | exact e0 | go_keep)
    (first
    | (go_at_call 59; refine (HN.out _ s hs (Below.refl _ _).drew).mono ?_; rintro e w1 ⟨rfl, hb1'⟩; have hb1 : Below w.heap.size w w1 := (((Below.refl _ _).drew).on hb1'); have d0 := (hb1.cell (p := ⟨B, 0, none⟩) z0).trans c0)
    | (go_at_call 59; refine (HN.out _ t ht hb1).mono ?_; rintro e w2 ⟨rfl, hb2⟩; have hac2 : Below w.heap.size w w2 := hb1.on hb2; have e0 := (hac2.cell (p := ⟨B, 0, none⟩) z0).trans c0)
    | (go_at_call 64; refine (cmpI_any _ _ _).mono ?_; rintro e w3 ⟨⟨c, rfl, hc⟩, rfl⟩)
    | fail)
  go_wp2
  go_ret
  exact ⟨⟨c, rfl, by rw [hc]; omega⟩, hac2⟩
theorem ent_Narrow1 : Enters 59 := fun args w => by kernel_rfl
theorem ent_Narrow2 : Enters 63 := fun args w => by kernel_rfl
end Go.Proofs.Ytadamjleglckpaa.drn

/- Package drain, the walks: Narrow. -/
namespace Go.Proofs.Ytadamjleglckpaa.drn
open Go.RowKit
set_option linter.unusedSimpArgs false
set_option linter.unusedVariables false

/-- a new list of ints, a number, and an error -/
def RetN (w : World) (l : List Int) (k err : Int) (e : Ending) (w' : World) : Prop :=
  ∃ q c, e = .returned (.tuple #[.slice q l.length c, .int .i64 k, .int .i64 err]) ∧ RowV w' q (flatI l) ∧ (q = none → c = 0) ∧ (∀ a, q = some a → w.heap.size ≤ a.block ∧ a.block < w'.heap.size) ∧ Below w.heap.size w w'

set_option maxRecDepth 100000 in
set_option maxHeartbeats 2000000 in
theorem Narrow_any (n : Int) (q : Option Addr) (cap : Nat) (cs : List Ch) (w : World) (hr : RowV w q (flatT cs)) (hcap : cs.length ≤ cap) :
    Calls Try.prog 19 #[hillV n q cs.length cap] w (RetN w (narrowOf n.toNat cs).1 (narrowOf n.toNat cs).2.1 (narrowOf n.toNat cs).2.2) := by
  have hb0 : Below w.heap.size w (w.alloc (.cells #[.int .i64 n, .slice q cs.length cap] 24)) := (Below.refl _ _).alloc (Nat.le_refl _) _
  have c1 := Check_any n q cap cs _ (hr.below (Nat.le_refl _) hb0) hcap
  unfold hillV at c1 ⊢
  have C1 := Lib.hid c1
  have HB := Lib.hid hb0
  clear c1
  by_cases h0 : errD n cs = 0
  · obtain ⟨m, rfl, hchs⟩ := chs_of h0
    have hgl : (groupsS m 0).length ≤ 1000 := by
      rw [groupsS_len]
      have : 2 ^ m ≤ 64 := Nat.pow_le_pow_right (by decide) hchs.n6
      omega
    have hmem : ∀ s ∈ groupsS m 0, s < 2 ^ m := fun s hs => (mem_groups.1 hs).2
    obtain ⟨x, xs, hxs⟩ : ∃ x xs, groupsS m 0 = x :: xs := by
      obtain ⟨k, rfl⟩ : ∃ k, m = k + 1 := ⟨m - 1, by have := hchs.n1; omega⟩
      exact ⟨_, _, rfl⟩
    have hans : narrowOf ((m : Int).toNat) cs = (listS (minFrom (fun s => (leavingS cs s).length) x xs), ((leavingS cs (minFrom (fun s => (leavingS cs s).length) x xs)).length : Int), 0) := by
      unfold narrowOf
      rw [Int.toNat_natCast, if_neg (by rw [h0]; simp), hxs, minFrom_first]
    rw [hans]
    have hgo := fun W => groupsOf_any m q cs.length cap W hchs.n6
    rw [hxs] at hgl hmem
    simp only [hxs] at hgo
    have hmn : minFrom (fun s => (leavingS cs s).length) x xs < 2 ^ m := by
      rcases minFrom_mem (fun s => (leavingS cs s).length) xs x with h | h
      · rw [h]; exact hmem x (by simp)
      · exact hmem _ (by simp [h])
    obtain ⟨r, hrr⟩ : ∃ r, minFrom (fun s => (leavingS cs s).length) x xs = r := ⟨_, rfl⟩
    rw [hrr] at hmn ⊢
    have HRR := Lib.hid hrr
    have HR := Lib.hid hr
    have HCH := Lib.hid hchs
    have hn6 := hchs.n6
    have HMEM := Lib.hid hmem
    have HGO := Lib.hid hgo
    rw [h0] at C1
    clear hans h0 hr hb0 hchs hmem hxs hgo hrr
    go_enter Try.func19, Try.ntmps19
    go_wp2_with (first
      | (go_at_call 45; refine C1.out.mono ?_; rintro e w1 ⟨rfl, hb1⟩; obtain ⟨hc1, hf1⟩ := bcell hb1; have hac1 : Below w.heap.size w w1 := HB.out.on hb1; have hz0 : w.heap.size < w1.heap.size := (by have := hb1.size; simp at this; omega))
      | (go_at_call 42; refine (channelsOf_any m q cap cs _ HCH.out (HR.out.below (Nat.le_refl _) hac1)).mono ?_; rintro e wB ⟨vB, rfl, hownB, hbB⟩; obtain ⟨hcB, hfB⟩ := bcell hbB; have hacB : Below w.heap.size w wB := hac1.on hbB; have hzB : w.heap.size < wB.heap.size := Nat.lt_of_lt_of_le hz0 hbB.size; obtain ⟨qB, cB, rfl, hrowB, _, _⟩ := rowV_of_owns hownB (by intro h; rw [List.length_eq_zero_iff] at h; rw [h]; rfl); clear hownB)
      | (go_at_call 62; refine (HGO.out _).mono ?_; rintro e wG ⟨vG, rfl, hownG, hbG⟩))
    have bE : ∀ (W : World) (o : Obj), Below W.heap.size W (W.alloc o) := fun W o => (Below.refl _ _).alloc (Nat.le_refl _) _
    have hchsC : ChsAt (wB.alloc (.cells #[.slice qB cs.length cB] 75)) wB.heap.size m cs := ⟨qB, cB, by simp, by simp, hrowB.below (Nat.le_refl _) (bE _ _)⟩
    have hchsD := hchsC.below (Nat.le_refl _) (bE _ (.cells #[.func (.func 59) #[] #[.pointer (some ⟨wB.heap.size, 0, none⟩)]] 100))
    have hfun : FunAt ((wB.alloc (.cells #[.slice qB cs.length cB] 75)).alloc (.cells #[.func (.func 59) #[] #[.pointer (some ⟨wB.heap.size, 0, none⟩)]] 100)) (wB.heap.size + 1) wB.heap.size := ⟨by simp, by simp⟩
    have hbC : Below wB.heap.size wB ((wB.alloc (.cells #[.slice qB cs.length cB] 75)).alloc (.cells #[.func (.func 59) #[] #[.pointer (some ⟨wB.heap.size, 0, none⟩)]] 100)) := (bE _ _).on (bE _ _)
    have hacD := hacB.on hbC
    have hzD : w.heap.size < ((wB.alloc (.cells #[.slice qB cs.length cB] 75)).alloc (.cells #[.func (.func 59) #[] #[.pointer (some ⟨wB.heap.size, 0, none⟩)]] 100)).heap.size := Nat.lt_of_lt_of_le hzB hbC.size
    obtain ⟨W4, hW4⟩ : ∃ W4, (wB.alloc (.cells #[.slice qB cs.length cB] 75)).alloc (.cells #[.func (.func 59) #[] #[.pointer (some ⟨wB.heap.size, 0, none⟩)]] 100) = W4 := ⟨_, rfl⟩
    rw [hW4] at hchsD hfun hacD hownG hbG hzD
    clear hW4 hbC hchsC hcB hfB hc1 hf1 hb1 hbB hrowB
    have hacG := hacD.on hbG
    have hchsG := hchsD.below (Nat.le_refl _) hbG
    have hfunG := hfun.below (Nat.le_refl _) hbG
    obtain ⟨qG, cG, rfl, hrowG, _, _⟩ := rowV_of_owns hownG (by intro h; rw [List.length_eq_zero_iff] at h; rw [h]; rfl)
    have hmin := minS_any wG.heap.size 63 #[.pointer (some ⟨wB.heap.size + 1, 0, none⟩)] (fun s => (leavingS cs s).length) ent_Narrow2 qG cG x xs wG (Nat.le_refl _) (fun W s t hs ht hb hB => Narrow2_any m s t _ _ cs W HCH.out (HMEM.out s hs) (HMEM.out t ht) (hchsG.below (Nat.le_refl _) hb) (hfunG.below (Nat.le_refl _) hb)) hrowG hgl
    rw [HRR.out] at hmin
    have HMIN := Lib.hid hmin
    obtain ⟨L2, hL2⟩ : ∃ L2, (x :: xs).length = L2 := ⟨_, rfl⟩
    rw [hL2] at HMIN ⊢
    clear hmin hL2 hrowG hownG hacD hchsD hfun
    have hr64 := pow_64 hn6 hmn
    go_upto_region 7 with (go_at_call 61; refine HMIN.out.mono ?_; rintro e wE ⟨rfl, hbE⟩)
    have hacE := hacG.on hbE
    have hchsE := hchsG.below (Nat.le_refl _) hbE
    have hfunE := hfunG.below (Nat.le_refl _) hbE
    obtain ⟨zE, cE⟩ := hfunE
    clear hfunG hchsG hbE HMIN
    go_region_held3 (fun W => W.cell? ⟨wB.heap.size + 1, 0, none⟩ = some (.func (.func 59) #[] #[.pointer (some ⟨wB.heap.size, 0, none⟩)])) (first | exact cE | exact d0 | exact e0 | go_keep)
      (first
      | (go_at_call 65; refine (list_any r _ hr64).mono ?_; rintro e w5 ⟨v5, rfl, hown5, hb5'⟩; have hb5 : Below wE.heap.size wE w5 := ((Below.refl _ _).drew).on hb5'; have d0 := (hb5.cell (p := ⟨wB.heap.size + 1, 0, none⟩) zE).trans cE; obtain ⟨q5, c5, rfl, hrow5, hq5, hqb5⟩ := rowV_of_owns hown5 (by intro h; rw [List.length_eq_zero_iff] at h; rw [h]; rfl))
      | (go_at_call 59; refine (Narrow1_any m r _ cs w5 HCH.out hmn (hchsE.below (Nat.le_refl _) hb5)).mono ?_; rintro e w6 ⟨rfl, hb6⟩; have e0 := (hb6.cell (p := ⟨wB.heap.size + 1, 0, none⟩) (Nat.lt_of_lt_of_le zE hb5.size)).trans d0)
      | fail)
    go_wp2
    go_ret3
    refine ⟨q5, c5, rfl, hrow5.below (Nat.le_refl _) hb6, hq5, fun a ha => ⟨Nat.le_trans hacE.size ?_, Nat.lt_of_lt_of_le (hqb5 a ha).2 hb6.size⟩, (hacE.on hb5).on hb6⟩
    have := (hqb5 a ha).1
    simpa using this
  · have hans : narrowOf n.toNat cs = ([], 0, errD n cs) := by
      unfold narrowOf
      rw [errD_nat, if_pos h0]
    rw [hans]
    have hb : (errD n cs != 0) = true := by simpa using h0
    clear hans h0 hr hb0
    go_enter Try.func19, Try.ntmps19
    go_wp2_with (go_at_call 45; refine C1.out.mono ?_; rintro e w1 ⟨rfl, hb1⟩)
    go_ret3
    exact ⟨none, 0, rfl, .inl rfl, fun _ => rfl, by simp, HB.out.on hb1⟩
end Go.Proofs.Ytadamjleglckpaa.drn

/- The reference of stage 2, walked: way, drains. -/
namespace Go.Proofs.Ytadamjleglckpaa.drn
open Go.RowKit
set_option linter.unusedSimpArgs false
set_option linter.unusedVariables false
theorem own_single (w : World) (g : Int) : (w.alloc (.cells #[.int .i64 g] 3)).ownsRow w.heap.size 3 1 (.slice (some ⟨w.heap.size, 0, none⟩) 1 1) 1 (flatI [g]) := by
  have h := World.ownsRow_made (base := w.heap.size) (e := 3) (size := 1) w #[.int .i64 g] 1 (Nat.le_refl _) (by decide) rfl
  obtain ⟨_, ⟨h1, _⟩ | ⟨b, cap, cur, e, h2, h3, h4, h5, h6, h7⟩⟩ := h
  · cases h1
  · injection e with e1 e2 e3
    injection e1 with e1
    injection e1 with e1 _ _
    subst e3
    subst e1
    have hc : (w.alloc (.cells #[.int .i64 g] 3)).heap[w.heap.size]? = some (.cells #[.int .i64 g] 3 (0, 0)) := by
      show (w.heap.push _)[w.heap.size]? = some _
      simp
    exact ⟨by simp [flatI], .inr ⟨w.heap.size, 1, #[.int .i64 g], rfl, Nat.le_refl _, hc, Nat.le_refl _, by decide, rfl, by simp [flatI]⟩⟩
theorem wayF_end' (n : Nat) (ch : List Ch) (f : Nat) : wayF n ch f (n : Int) = [(n : Int)] := by cases f <;> simp [wayF]
theorem wayF_go' {n : Nat} {ch : List Ch} {f h t : Nat} (hlt : h < n) (ht : nextG n ch h = t) : wayF n ch (f + 1) h = (h : Int) :: wayF n ch f t := by
  have e3 : wayF n ch (f + 1) h = if (h : Int) = n then [(h : Int)] else (h : Int) :: wayF n ch f (nextG n ch h) := rfl
  rw [e3, if_neg (by omega), ht]
set_option maxRecDepth 100000 in
set_option maxHeartbeats 4000000 in
theorem rway_any (n g : Nat) (q : Option Addr) (cap : Nat) (cs : List Ch) (q2 : Option Addr) (c2 : Nat) (l : List Int) (w : World) (hc : Chs n cs) (hr : RowV w q (flatT cs)) (hr2 : RowV w q2 (flatI l)) (hin : InR cs l) (hl : l.length ≤ 1000)
    (ho : OneEach n (chosenS cs l)) (hall : ∀ g : Nat, g < n → ∃ x ∈ l, frm cs x = g) (hg : g ≤ n) :
    Calls Try.prog 44 #[hillV n q cs.length cap, .slice q2 l.length c2, .int .i64 g] w (RetV w 3 1 (wayF n (chosenS cs l) n g).length (flatI (wayF n (chosenS cs l) n g))) := by
  have hfr := fun (h : Int) W (hb : Below w.heap.size w W) => rfrom_any n q cap cs q2 c2 l h W (hr.below (Nat.le_refl _) hb) (hr2.below (Nat.le_refl _) hb) hin hl
  unfold hillV at hfr ⊢
  have hb0 : Below w.heap.size w (w.alloc (.cells #[.int .i64 n, .slice q cs.length cap] 28)) := (Below.refl _ _).alloc (Nat.le_refl _) _
  have HR := Lib.hid (hr.below (Nat.le_refl _) hb0)
  have HFR := Lib.hid hfr
  have HIN := Lib.hid hin
  have HBB := Lib.hid hb0
  have HC := Lib.hid hc
  have HO := Lib.hid ho
  have HALL := Lib.hid hall
  have hn6 := hc.n6
  have h14 := hc.many
  clear hr hr2 hin hc ho hall hfr
  go_enter Try.func44, Try.ntmps44
  go_upto_region 1 with fail
  obtain ⟨B, hB⟩ : ∃ B, w.heap.size = B := ⟨_, rfl⟩
  have hc0 : (w.alloc (.cells #[.int .i64 n, .slice q cs.length cap] 28)).cell? ⟨B, 0, none⟩ = some (.int .i64 n) ∧ (w.alloc (.cells #[.int .i64 n, .slice q cs.length cap] 28)).cell? ⟨B, 1, none⟩ = some (.slice q cs.length cap) := by rw [← hB]; simp
  obtain ⟨c0, c1⟩ := hc0
  have HBE := Lib.hid hB
  have hz0 := hb0.size
  rw [hB] at hz0 ⊢
  generalize (w.alloc (.cells #[.int .i64 n, .slice q cs.length cap] 28)) = W0 at *
  clear hB hb0
  go_upto_region 2 with fail
  have hos := own_single W0 (g : Int)
  have hA : Below W0.heap.size W0 (W0.alloc (.cells #[.int .i64 (g : Int)] 3)) := (Below.refl _ _).alloc (Nat.le_refl _) _
  obtain ⟨B1, hB1⟩ : ∃ B1, W0.heap.size = B1 := ⟨_, rfl⟩
  rw [hB1] at hos ⊢
  have HOS := Lib.hid hos
  have HB1 := Lib.hid hB1
  have hz1 : B1 ≤ (W0.alloc (.cells #[.int .i64 (g : Int)] 3)).heap.size := by rw [← hB1]; exact hA.size
  have hwB1 : w.heap.size ≤ B1 := by have h1 := HBE.out; have h2 := HB1.out; omega
  have HA := Lib.hid hA
  generalize (W0.alloc (.cells #[.int .i64 (g : Int)] 3)) = W1 at *
  obtain ⟨ch, hch⟩ : ∃ ch, chosenS cs l = ch := ⟨_, rfl⟩
  have HCH := Lib.hid hch
  rw [hch] at HO
  have hch2 := hch.symm
  clear hch hch2 hos hA hB1
  go_loopg [2, 7] n (fun f a v w2 => ∃ (h : Nat) (acc : List Int), h ≤ n ∧ a = .int .i64 h ∧ Hid (acc ++ wayF n ch f h = wayF n ch n g) ∧ f + acc.length = n ∧ Hid (w2.ownsRow B1 3 1 v (acc ++ [(h : Int)]).length (flatI (acc ++ [(h : Int)]))) ∧ B1 ≤ w2.heap.size ∧ Below W0.heap.size W0 w2)
  case atStart => exact ⟨g, [], hg, rfl, Lib.hid rfl, by simp, HOS, hz1, HA.out⟩
  case round =>
    obtain ⟨h, acc, hhn, rfl, HACC, hfa, HOI, hzb, hb2⟩ := hrel
    have d0 := (hb2.cell (p := ⟨B, 0, none⟩) (cell_lt' c0)).trans c0
    have d1 := (hb2.cell (p := ⟨B, 1, none⟩) (cell_lt' c1)).trans c1
    have HB2 := Lib.hid hb2
    clear hb2
    by_cases hh : h = n
    · obtain rfl : n = h := hh.symm
      have hacc := HACC.out
      rw [wayF_end'] at hacc
      have HAC := Lib.hid hacc
      clear hacc HACC
      go_wp2
      go_ret
      exact ⟨_, rfl, by rw [HCH.out, ← HAC.out]; exact own_base HOI.out hwB1, HBB.out.on HB2.out⟩
    · have hlt : h < n := by omega
      have hne2 : ((h : Int) != (n : Int)) = true := by simp; omega
      have hne3 : ¬ (h : Int) = (n : Int) := by omega
      obtain ⟨qv, cv, rfl, hrv, _⟩ := rowV_of_owns HOI.out (by intro h; simp at h)
      have h9 : wr.ownsRow B1 3 1 (.slice qv (acc.length + 1) cv) (acc ++ [(h : Int)]).length (flatI (acc ++ [(h : Int)])) := by
        have h8 := HOI.out
        rw [show Value.slice qv (acc ++ [(h : Int)]).length cv = Value.slice qv (acc.length + 1) cv by simp] at h8
        exact h8
      have HO9 := Lib.hid h9
      rw [show Value.slice qv (acc ++ [(h : Int)]).length cv = Value.slice qv (acc.length + 1) cv by simp]
      clear hrv h9
      cases gk with
      | zero =>
        have hacc := HACC.out
        have e2 : wayF n ch 0 (h : Int) = [(h : Int)] := rfl
        rw [e2] at hacc
        have hle1 : ¬ (acc.length : Int) + 1 ≤ (n : Int) := by omega
        have hle2 : decide ((acc.length : Int) + 1 ≤ (n : Int)) = false := decide_eq_false hle1
        have HAC := Lib.hid hacc
        clear hacc e2 HACC
        go_wp2
        go_ret
        exact ⟨_, rfl, by rw [HCH.out, ← HAC.out]; exact own_base HO9.out hwB1, HBB.out.on HB2.out⟩
      | succ f =>
        have hle1 : (acc.length : Int) + 1 ≤ (n : Int) := by omega
        have hle2 : decide ((acc.length : Int) + 1 ≤ (n : Int)) = true := decide_eq_true hle1
        obtain ⟨t, ht, htn⟩ := next_in HO.out hlt
        have hnx := fromS_next (n := n) HIN.out (HALL.out h hlt)
        rw [HCH.out, htn] at hnx
        obtain ⟨X, hX⟩ : ∃ X : Nat, fromS cs l (h : Int) = X := ⟨(fromS cs l (h : Int)).toNat, by omega⟩
        rw [hX, Int.toNat_natCast] at hnx
        obtain ⟨hXr, hXt⟩ := hnx
        have hfm := fun W (hb : Below W0.heap.size W0 W) => HFR.out (h : Int) W (HBB.out.on hb)
        simp only [hX] at hfm
        have HFM := Lib.hid hfm
        obtain ⟨b4, off4, rfl, hb4, g1, g2, g3⟩ := rowT_at HR.out (k := X) (by omega) (Nat.le_refl _) HB2.out
        rw [← hXt] at g2
        have hacc := HACC.out
        rw [wayF_go' hlt htn] at hacc
        have HAC := Lib.hid hacc
        have hXi : (X : Int) < (cs.length : Int) := hXr.2
        have hX0 : (0 : Int) ≤ (X : Int) := by omega
        have hal : acc.length ≤ 1000 := by omega
        have hz2 : b4 < wr.heap.size := Nat.lt_of_lt_of_le hb4 HB2.out.size
        have hzB : B < wr.heap.size := cell_lt' d0
        clear hacc hX hXt htn hfm HACC g1 g3
        go_upto_region 3 with fail
        go_region_held3 (fun W => W.cell? ⟨B, 0, none⟩ = some (.int .i64 n) ∧ W.cell? ⟨B, 1, none⟩ = some (.slice (some ⟨b4, off4, none⟩) cs.length cap) ∧ W.cell? ⟨b4, off4 + X * 3 + 1, none⟩ = some (.int .i64 t)) (first | exact ⟨d0, d1, g2⟩ | exact ⟨f0, f1, f2⟩ | go_keep)
          (first
            | (go_at_call 52; refine (HFM.out _ (HB2.out.on ((Below.refl _ _).drew))).mono ?_; rintro e w5 ⟨rfl, hb5'⟩; have hw5 : Below wr.heap.size wr w5 := ((Below.refl _ _).drew).on hb5'; have f0 := (hw5.cell (p := ⟨B, 0, none⟩) hzB).trans d0; have f1 := (hw5.cell (p := ⟨B, 1, none⟩) hzB).trans d1; have f2 := (hw5.cell (p := ⟨b4, off4 + X * 3 + 1, none⟩) hz2).trans g2)
            | fail)
        have HOI5 := Lib.hid (owns_below HO9.out (Nat.le_refl _) hw5)
        have HB5 := Lib.hid (HB2.out.on hw5)
        have hzb5 : B1 ≤ w5.heap.size := Nat.le_trans hzb hw5.size
        clear hb5' hw5 f0 f1 f2 d0 d1 g2 hz2 hzB
        go_wp2_with (at_builtin; refine app_int _ rfl (.tmp 30) (.tmp 32) rfl B1 _ (acc ++ [(h : Int)]) (t : Int) rfl (HOI5.out.alloc _) w5.heap.size 1 rfl (by simp) (by simp; omega) (by simp; omega) ?_; intro v2 w2 hown2 hgr2 hbk2; have hgb := grown_below (HOI5.out.alloc _) (by simp; omega) hgr2; have hzc : B1 ≤ w2.heap.size := (by have := hgb.size; simp at this; omega); have hbb : Below W0.heap.size W0 w2 := HB5.out.trans (((Below.refl _ _).alloc HB5.out.size _).trans (hgb.mono (by have := HB1.out; omega))))
        go_roundg f
        case measure => omega
        case rel => exact ⟨t, acc ++ [(h : Int)], ht, rfl, Lib.hid (by rw [← HAC.out]; simp), by simp; omega, Lib.hid hown2, hzc, hbb⟩
end Go.Proofs.Ytadamjleglckpaa.drn

/- The reference of stage 2, walked: drains, Valid, Cost, Way. -/
namespace Go.Proofs.Ytadamjleglckpaa.drn
open Go.RowKit
set_option linter.unusedSimpArgs false
set_option linter.unusedVariables false
theorem wayF_len' (n : Nat) (ch : List Ch) : ∀ (f : Nat) (g : Int), (wayF n ch f g).length ≤ f + 1
  | 0, g => by simp [wayF]
  | f + 1, g => by
    rw [wayF]
    split
    · simp
    · simp only [List.length_cons]; have := wayF_len' n ch f ((ch.find? fun c => c.1 == g).elim n fun c => c.2.1); omega
set_option maxRecDepth 100000 in
set_option maxHeartbeats 4000000 in
theorem rdrains_any (n : Nat) (q : Option Addr) (cap : Nat) (cs : List Ch) (q2 : Option Addr) (c2 : Nat) (l : List Int) (w : World) (hc : Chs n cs) (hr : RowV w q (flatT cs)) (hr2 : RowV w q2 (flatI l)) (hin : InR cs l) (hl : l.length ≤ 1000)
    (ho : OneEach n (chosenS cs l)) (hall : ∀ g : Nat, g < n → ∃ x ∈ l, frm cs x = g) :
    Calls Try.prog 53 #[hillV n q cs.length cap, .slice q2 l.length c2] w fun e w' => e = .returned (.bool ((List.range n).all fun g : Nat => reach n (chosenS cs l) n g)) ∧ Below w.heap.size w w' := by
  have hwy := fun (g : Nat) (hg : g ≤ n) W (hb : Below w.heap.size w W) => rway_any n g q cap cs q2 c2 l W hc (hr.below (Nat.le_refl _) hb) (hr2.below (Nat.le_refl _) hb) hin hl ho hall hg
  unfold hillV at hwy ⊢
  have hb0 : Below w.heap.size w (w.alloc (.cells #[.int .i64 n, .slice q cs.length cap] 28)) := (Below.refl _ _).alloc (Nat.le_refl _) _
  have HWY := Lib.hid hwy
  have HBB := Lib.hid hb0
  have hn6 := hc.n6
  clear hr hr2 hin hc ho hall hwy
  go_enter Try.func53, Try.ntmps53
  go_upto_region 1 with fail
  obtain ⟨B, hB⟩ : ∃ B, w.heap.size = B := ⟨_, rfl⟩
  have hc0 : (w.alloc (.cells #[.int .i64 n, .slice q cs.length cap] 28)).cell? ⟨B, 0, none⟩ = some (.int .i64 n) ∧ (w.alloc (.cells #[.int .i64 n, .slice q cs.length cap] 28)).cell? ⟨B, 1, none⟩ = some (.slice q cs.length cap) := by rw [← hB]; simp
  obtain ⟨c0, c1⟩ := hc0
  rw [hB]
  generalize (w.alloc (.cells #[.int .i64 n, .slice q cs.length cap] 28)) = W0 at *
  clear hB hb0
  obtain ⟨ch, hch⟩ : ∃ ch, chosenS cs l = ch := ⟨_, rfl⟩
  have HCH := Lib.hid hch
  rw [hch] at HWY
  clear hch
  go_wp2
  go_loopw [5] (fun i wl => ∃ g : Nat, g ≤ n ∧ i = .int .i64 g ∧ Hid (∀ j : Nat, j < g → reach n ch n j = true) ∧ Below W0.heap.size W0 wl) (fun i _ => n - (intOf i).toNat)
  case atStart => exact ⟨0, Nat.zero_le _, rfl, Lib.hid (fun j hj => absurd hj (Nat.not_lt_zero _)), Below.refl _ _⟩
  case round =>
    obtain ⟨g, hg, rfl, HAL, hbl⟩ := hrel
    have d0 := (hbl.cell (p := ⟨B, 0, none⟩) (cell_lt' c0)).trans c0
    have d1 := (hbl.cell (p := ⟨B, 1, none⟩) (cell_lt' c1)).trans c1
    by_cases hgl : g < n
    · have hgi : (g : Int) < (n : Int) := by omega
      have hw := HWY.out g hg wr (HBB.out.on hbl)
      obtain ⟨hne, hlast⟩ := wayF_last n ch n (g : Int)
      have hlen := wayF_len' n ch n (g : Int)
      have HALN := Lib.hid (fun (h : reach n ch n g = true) (j : Nat) (hj : j < g + 1) => show reach n ch n j = true from by
        by_cases e : j = g
        · rw [e]; exact h
        · exact HAL.out j (by omega))
      obtain ⟨rg, hrg⟩ : ∃ r, reach n ch n g = r := ⟨_, rfl⟩
      have HRG := Lib.hid hrg
      rw [hrg] at hlast
      generalize wayF n ch n (g : Int) = wy at hw hne hlast hlen
      obtain ⟨m, hm⟩ : ∃ m, wy.length = m + 1 := ⟨wy.length - 1, by have := List.length_pos_iff.2 hne; omega⟩
      rw [hm, Nat.add_sub_cancel] at hlast
      have HW := Lib.hid hw
      have HM := Lib.hid hm
      have HBL := Lib.hid hbl
      have HLEN := Lib.hid (show m ≤ 6 by omega)
      clear hw hne hrg hm hbl hlen
      go_upto_region 5 with (go_at_call 44; refine HW.out.mono ?_; rintro e w5 ⟨v5, rfl, hown5, hb5⟩)
      obtain ⟨q7, c7, rfl, hr7, _⟩ := rowV_of_owns hown5 (by intro h; rw [List.length_eq_zero_iff] at h; rw [h]; rfl)
      obtain ⟨b7, off7, rfl, hb7, hx⟩ := rowI_at hr7 (k := m) (by have := HM.out; omega) (Nat.le_refl _) (Below.refl _ _)
      have e0 := (hb5.cell (p := ⟨B, 0, none⟩) (cell_lt' d0)).trans d0
      have HB5 := Lib.hid (HBL.out.on hb5)
      generalize wy.getD m 0 = x at hx hlast
      rw [HM.out]
      have hmi : IntKind.i64.wrap (m : Int) = (m : Int) := IntWalk.i64_in _ ⟨by omega, by have := HLEN.out; omega⟩
      have hlt1 : (m : Int) < (m : Int) + 1 := by omega
      have hge1 : (0 : Int) ≤ (m : Int) := by omega
      have HGL := Lib.hid hgl
      clear hown5 hb5 hr7 d0 d1 hgl hg
      cases rg with
      | true =>
        have hxn : (x != (n : Int)) = false := by rw [bne, hlast]; rfl
        clear hlast
        go_quiet (fail)
        go_wp2
        go_roundw
        · exact ⟨g + 1, by have := HGL.out; omega, by congr 1, Lib.hid (HALN.out HRG.out), below_drewN HB5.out _⟩
        · simp [intOf]; have := HGL.out; omega
      | false =>
        have hxn : (x != (n : Int)) = true := by rw [bne, hlast]; rfl
        clear hlast
        go_quiet (fail)
        go_wp2
        go_ret
        have hre : ((List.range n).all fun g : Nat => reach n ch n g) = false := by
          rw [List.all_eq_false]
          exact ⟨g, List.mem_range.2 HGL.out, by rw [HRG.out]; decide⟩
        exact ⟨ret_bool (by rw [HCH.out]; exact hre.symm), HBB.out.on (below_drewN HB5.out _)⟩
    · obtain rfl : n = g := by omega
      have hre : ((List.range n).all fun g : Nat => reach n ch n g) = true := by
        rw [List.all_eq_true]
        exact fun g hg => HAL.out g (List.mem_range.1 hg)
      have HRE := Lib.hid hre
      clear hre
      go_wp2
      go_ret
      exact ⟨ret_bool (by rw [HCH.out]; exact HRE.out.symm), HBB.out.on hbl⟩
end Go.Proofs.Ytadamjleglckpaa.drn

/- The reference of stage 2, walked: Valid. -/
namespace Go.Proofs.Ytadamjleglckpaa.drn
open Go.RowKit
set_option linter.unusedSimpArgs false
set_option linter.unusedVariables false
theorem isGal_in (m : Nat) (x : Int) : isGal m x = inB x 0 ((m : Int) - 1) := by
  cases h : isGal m x with
  | true => have := (isGal_iff _ _).1 h; exact ((inB_iff _ _ _).2 (by omega)).symm
  | false =>
    cases h2 : inB x 0 ((m : Int) - 1) with
    | false => rfl
    | true => have := (inB_iff _ _ _).1 h2; rw [(isGal_iff _ _).2 (by omega)] at h; cases h
theorem rowI_take {w : World} {q : Option Addr} {l : List Int} (h : RowV w q (flatI l)) (k : Nat) : RowV w q (flatI (l.take k)) := by
  have := h.take k
  unfold flatI at this ⊢
  rwa [← List.map_take] at this
set_option maxRecDepth 100000 in
set_option maxHeartbeats 4000000 in
theorem rValid_any (n : Int) (q : Option Addr) (cap : Nat) (cs : List Ch) (q2 : Option Addr) (c2 : Nat) (l : List Int) (w : World) (hr : RowV w q (flatT cs)) (hr2 : RowV w q2 (flatI l)) (hl : l.length ≤ 1000) (hc2 : l.length ≤ c2) :
    Calls Try.prog 13 #[hillV n q cs.length cap, .slice q2 l.length c2] w fun e w' => e = .returned (.int .i64 (validOf n.toNat cs l)) ∧ Below w.heap.size w w' := by
  have hb0 : Below w.heap.size w (w.alloc (.cells #[.int .i64 n, .slice q cs.length cap] 28)) := (Below.refl _ _).alloc (Nat.le_refl _) _
  have c1 := rCheck_any n q cap cs _ (hr.below (Nat.le_refl _) hb0)
  unfold hillV at c1
  by_cases h0 : errD n cs = 0
  · obtain ⟨m, rfl, hchs⟩ := chs_of h0
    have hstp := fun (k : Nat) (h : RAt cs l k) (hk : k < l.length) => RAt.step hchs.ok h hk
    have hdon := fun (h : RAt cs l l.length) => RAt.done h0 hchs h
    have herr : (planErr cs none 0 l).1 ≠ 0 → validOf m cs l = (planErr cs none 0 l).1 := fun h => by
      unfold validOf
      rw [if_neg (fun x => x h0), if_pos h]
    have hfr := fun (k : Nat) (hk : k ≤ l.length) (hi : InR cs (l.take k)) (g : Int) W (hb : Below w.heap.size w W) =>
      rfrom_any m q cap cs q2 c2 (l.take k) g W (hr.below (Nat.le_refl _) hb) (rowI_take (hr2.below (Nat.le_refl _) hb) k) hi (by rw [List.length_take]; omega)
    have hdr := fun (hi : InR cs l) (ho : OneEach m (chosenS cs l)) (ha : ∀ g : Nat, g < m → ∃ x ∈ l, frm cs x = g) W (hb : Below w.heap.size w W) =>
      rdrains_any m q cap cs q2 c2 l W hchs (hr.below (Nat.le_refl _) hb) (hr2.below (Nat.le_refl _) hb) hi hl ho ha
    unfold hillV at hfr hdr ⊢
    have h14 := hchs.many
    rw [h0] at c1
    obtain ⟨ans, hans⟩ : ∃ ans, validOf m cs l = ans := ⟨_, rfl⟩
    obtain ⟨pe, hpe⟩ : ∃ pe, (planErr cs none 0 l).1 = pe := ⟨_, rfl⟩
    rw [Int.toNat_natCast]
    rw [hans] at herr hdon ⊢
    simp only [hpe] at herr hstp
    have HSTP := Lib.hid hstp
    have HDON := Lib.hid hdon
    have HERR := Lib.hid herr
    have HFR := Lib.hid hfr
    have HDR := Lib.hid hdr
    have HR := Lib.hid (hr.below (Nat.le_refl _) hb0)
    have HR2 := Lib.hid (hr2.below (Nat.le_refl _) hb0)
    have HBB := Lib.hid hb0
    have C1 := Lib.hid c1
    have HL := Lib.hid hl
    have HC2 := Lib.hid hc2
    have hwl : IntKind.i64.wrap ((cs.length : Int) - 1) = (cs.length : Int) - 1 := IntWalk.i64_in _ ⟨by omega, by omega⟩
    have HWL := Lib.hid hwl
    clear hstp hdon herr hfr hdr hr hr2 h0 hchs hans hpe c1 hl hc2 hwl
    go_enter Try.func13, Try.ntmps13
    go_upto_region 1 with fail
    obtain ⟨B, hB⟩ : ∃ B, w.heap.size = B := ⟨_, rfl⟩
    have hc0 : (w.alloc (.cells #[.int .i64 (m : Int), .slice q cs.length cap] 28)).cell? ⟨B, 0, none⟩ = some (.int .i64 (m : Int)) ∧ (w.alloc (.cells #[.int .i64 (m : Int), .slice q cs.length cap] 28)).cell? ⟨B, 1, none⟩ = some (.slice q cs.length cap) := by rw [← hB]; simp
    obtain ⟨c0, c1⟩ := hc0
    rw [hB]
    generalize (w.alloc (.cells #[.int .i64 (m : Int), .slice q cs.length cap] 28)) = W0 at *
    clear hb0 hB
    go_upto_region 2 with (go_at_call 51; refine C1.out.mono ?_; rintro e w1 ⟨rfl, hb1⟩)
    have d0 := (hb1.cell (p := ⟨B, 0, none⟩) (cell_lt' c0)).trans c0
    have d1 := (hb1.cell (p := ⟨B, 1, none⟩) (cell_lt' c1)).trans c1
    have HR1 := Lib.hid (HR.out.below (Nat.le_refl _) hb1)
    have HR21 := Lib.hid (HR2.out.below (Nat.le_refl _) hb1)
    have HB1 := Lib.hid (HBB.out.on hb1)
    clear c0 c1 hb1 HR HR2 C1 HBB
    go_wp2
    go_loopw [5, 6] (fun v i wl => ∃ (k : Nat) (e : Int), i = .int .i64 k ∧ v = .int .i64 e ∧ Hid ((e = 0 ∧ k ≤ l.length ∧ RAt cs l k) ∨ (e ≠ 0 ∧ e = pe)) ∧ Below w1.heap.size w1 wl) (fun _ i _ => l.length - (intOf i).toNat)
    case atStart => exact ⟨0, 0, rfl, rfl, Lib.hid (.inl ⟨rfl, Nat.zero_le _, RAt.zero _ _⟩), Below.refl _ _⟩
    case round =>
      obtain ⟨k, e, rfl, rfl, HST, hbl⟩ := hrel
      have e0 := (hbl.cell (p := ⟨B, 0, none⟩) (cell_lt' d0)).trans d0
      have e1 := (hbl.cell (p := ⟨B, 1, none⟩) (cell_lt' d1)).trans d1
      by_cases he : e = 0
      · subst he
        have hst : k ≤ l.length ∧ RAt cs l k := by rcases HST.out with ⟨_, h1, h2⟩ | ⟨h, _⟩; exact ⟨h1, h2⟩; exact absurd rfl h
        obtain ⟨hk, hrat⟩ := hst
        by_cases hkl : k < l.length
        · have hki : (k : Int) < (l.length : Int) := by omega
          obtain ⟨b3, off3, rfl, hb3, hx⟩ := rowI_at HR21.out hkl (Nat.le_refl _) hbl
          have hst := HSTP.out k hrat hkl
          obtain ⟨gg, hgg⟩ : ∃ gg, isGal cs.length (l.getD k 0) = gg := ⟨_, rfl⟩
          obtain ⟨x, hxe⟩ : ∃ x, l.getD k 0 = x := ⟨_, rfl⟩
          have hyy : 0 < k → ∃ y, wr.cell? ⟨b3, off3 + (k - 1), none⟩ = some (.int .i64 y) ∧ prevS l k = some y := fun h0 => by
            obtain ⟨b4, off4, e4, hb4, hy⟩ := rowI_at HR21.out (k := k - 1) (by omega) (Nat.le_refl _) hbl
            simp only [Option.some.injEq, Addr.mk.injEq] at e4
            obtain ⟨rfl, rfl, _⟩ := e4
            exact ⟨_, hy, by unfold prevS; rw [if_neg (by omega)]⟩
          have HI := Lib.hid (fun W => rin_is (a := x) (b := 0) (c := (cs.length : Int) - 1) (v := gg) (by rw [← isGal_in, ← hxe]; exact hgg) W)
          rw [hxe] at hx hst hgg
          rw [hgg] at hst
          have HSTK := Lib.hid hst
          have HGG := Lib.hid hgg
          have HYY := Lib.hid hyy
          have HBL := Lib.hid hbl
          have HKL := Lib.hid hkl
          have HRAT := Lib.hid hrat
          have hwl := HWL.out
          have hl := HL.out
          clear hst hgg hyy hbl hkl hrat
          go_upto_region 5 with fail
          go_region_held3 (fun W => W.cell? ⟨B, 1, none⟩ = some (.slice q cs.length cap) ∧ W.cell? ⟨b3, off3 + k, none⟩ = some (.int .i64 x)) (first | exact ⟨e1, hx⟩ | go_keep)
            (first
              | (go_at_call 43; refine (HI.out _).mono ?_; rintro e w5 ⟨rfl, rfl⟩)
              | fail)
          have hB2 := HBL.out.on ((Below.refl wr.heap.size wr).drew)
          have HB2 := Lib.hid hB2
          clear hB2
          cases gg with
          | false =>
            have hp := HSTK.out.1 rfl
            have HP := Lib.hid hp
            clear hp
            go_wp2
            go_roundw
            case rel => exact ⟨k + 1, 2, by go_num, rfl, Lib.hid (.inr ⟨by decide, HP.out.symm⟩), HB2.out⟩
            case measure => simp [intOf]; have := HKL.out; omega
          | true =>
            go_upto_region 7 with fail
            have hx7 := (((Below.refl wr.heap.size wr).drew).cell (p := ⟨b3, off3 + k, none⟩) (cell_lt' hx)).trans hx
            have k1 := (((Below.refl wr.heap.size wr).drew).cell (p := ⟨B, 1, none⟩) (cell_lt' e1)).trans e1
            have k0 := (((Below.refl wr.heap.size wr).drew).cell (p := ⟨B, 0, none⟩) (cell_lt' e0)).trans e0
            have hy7 : 0 < k → ∃ y, wr.cell? ⟨b3, off3 + (k - 1), none⟩ = some (.int .i64 y) ∧ prevS l k = some y := fun h => by
              obtain ⟨y, hy, hp⟩ := HYY.out h
              exact ⟨y, hy, hp⟩
            have HY7 := Lib.hid hy7
            have hpk : k = 0 → prevS l k = none := fun h => by unfold prevS; rw [if_pos h]
            have HPK := Lib.hid hpk
            have hwk : 0 < k → IntKind.i64.wrap ((k : Int) - 1) = ((k - 1 : Nat) : Int) := fun h => by rw [IntWalk.i64_in _ ⟨by omega, by omega⟩]; omega
            have HWK := Lib.hid hwk
            obtain ⟨nu, hnu⟩ : ∃ nu, notUp (prevS l k) x = nu := ⟨_, rfl⟩
            have HNU := Lib.hid hnu
            rw [hnu] at HSTK
            clear hy7 hpk hwk hnu
            cases nu with
            | true =>
              have hp := HSTK.out.2.1 rfl rfl
              have hk0 : 0 < k := by
                rcases Nat.eq_zero_or_pos k with h | h
                · have := HNU.out; rw [HPK.out h] at this; cases this
                · exact h
              obtain ⟨y, hy, hpy⟩ := HY7.out hk0
              have hxy := HNU.out
              rw [hpy] at hxy
              have hxy2 : x ≤ y := by simpa [notUp] using hxy
              have hk0i : (0 : Int) < (k : Int) := by omega
              have hwk := HWK.out hk0
              have hk1i : ((k - 1 : Nat) : Int) < (l.length : Int) := by omega
              have HP := Lib.hid hp
              clear hp hpy hxy
              go_quiet (fail)
              go_wp2
              go_roundw
              case rel => exact ⟨k + 1, 7, by go_num, rfl, Lib.hid (.inr ⟨by decide, HP.out.symm⟩), below_drewN HBL.out _⟩
              case measure => simp [intOf]; have := HKL.out; omega
            | false =>
              have hgx := (isGal_iff _ _).1 HGG.out
              obtain ⟨X, hX⟩ : ∃ X : Nat, x = X := ⟨x.toNat, by omega⟩
              subst hX
              obtain ⟨b4, off4, rfl, hb4, g1, _, _⟩ := rowT_at HR1.out (k := X) (by omega) (Nat.le_refl _) HB2.out
              have hfx : frm cs (X : Int) = (cs.getD X (0, 0, 0)).1 := by unfold frm; rw [Int.toNat_natCast]
              rw [← hfx] at g1
              obtain ⟨gx, hgxe⟩ : ∃ gx, frm cs (X : Int) = gx := ⟨_, rfl⟩
              rw [hgxe] at g1 HSTK
              have hXi : (X : Int) < (cs.length : Int) := hgx.2
              have hX0 : (0 : Int) ≤ (X : Int) := by omega
              have hff := fun W hb => HFR.out k (Nat.le_of_lt HKL.out) HRAT.out.inr gx W hb
              have hlt : (l.take k).length = k := by rw [List.length_take]; have := HKL.out; omega
              rw [hlt] at hff
              obtain ⟨fv, hfv⟩ : ∃ fv, fromS cs (l.take k) gx = fv := ⟨_, rfl⟩
              simp only [hfv] at hff HSTK
              have HFF := Lib.hid hff
              have hkc : (k : Int) ≤ (c2 : Int) := by have := HC2.out; omega
              have HW := Lib.hid (HB1.out.on HB2.out)
              have hcas : (k = 0) ∨ (0 < k ∧ ∃ y, wr.cell? ⟨b3, off3 + (k - 1), none⟩ = some (.int .i64 y) ∧ ¬ (X : Int) ≤ y) := by
                rcases Nat.eq_zero_or_pos k with h | h
                · exact .inl h
                · obtain ⟨y, hy, hpy⟩ := HY7.out h
                  refine .inr ⟨h, y, hy, ?_⟩
                  have hn := HNU.out
                  rw [hpy] at hn
                  simpa [notUp] using hn
              clear hff hfv hgxe hfx hlt hgx
              rcases hcas with hk0 | ⟨hk0, y, hy, hxy⟩
              · have hk0i : ¬ (0 : Int) < (k : Int) := by omega
                go_quiet (fail)
                clear hk0i hk0
                go_upto_region 9 with fail
                obtain ⟨W9, hW9⟩ : ∃ W9, wr.drew.drewN nq = W9 := ⟨_, rfl⟩
                have hb9 : Below wr.heap.size wr W9 := by rw [← hW9]; exact below_drewN (Below.refl wr.heap.size wr).drew _
                rw [hW9]
                have f0 := (hb9.cell (p := ⟨B, 0, none⟩) (cell_lt' e0)).trans e0
                have f1 := (hb9.cell (p := ⟨B, 1, none⟩) (cell_lt' e1)).trans e1
                have fx := (hb9.cell (p := ⟨b3, off3 + k, none⟩) (cell_lt' hx)).trans hx
                have g1' : wr.cell? ⟨b4, off4 + X * 3, none⟩ = some (.int .i64 gx) := g1
                have fg := (hb9.cell (p := ⟨b4, off4 + X * 3, none⟩) (cell_lt' g1')).trans g1'
                have z0 : B < W9.heap.size := cell_lt' f0
                have z3 : b3 < W9.heap.size := cell_lt' fx
                have z4 : b4 < W9.heap.size := cell_lt' fg
                have HB9 := Lib.hid (HBL.out.on hb9)
                have hwr9 := HB1.out.on HB9.out
                have HWR9 := Lib.hid hwr9
                clear hW9 hb9 e0 e1 hx g1 g1' hx7 k0 k1 hwr9
                go_region_held3 (fun W => W.cell? ⟨B, 0, none⟩ = some (.int .i64 (m : Int)) ∧ W.cell? ⟨B, 1, none⟩ = some (.slice (some ⟨b4, off4, none⟩) cs.length cap) ∧ W.cell? ⟨b3, off3 + k, none⟩ = some (.int .i64 (X : Int)) ∧ W.cell? ⟨b4, off4 + X * 3, none⟩ = some (.int .i64 gx)) (first | exact ⟨f0, f1, fx, fg⟩ | exact ⟨h0, h1, h2, h3⟩ | go_keep)
                  (first
                    | (go_at_call 52; refine (HFF.out _ (HWR9.out.on ((Below.refl _ _).drew))).mono ?_; rintro e w5 ⟨rfl, hb5'⟩; have hw5 : Below W9.heap.size W9 w5 := ((Below.refl _ _).drew).on hb5'; have h0 := (hw5.cell (p := ⟨B, 0, none⟩) z0).trans f0; have h1 := (hw5.cell (p := ⟨B, 1, none⟩) z0).trans f1; have h2 := (hw5.cell (p := ⟨b3, off3 + k, none⟩) z3).trans fx; have h3 := (hw5.cell (p := ⟨b4, off4 + X * 3, none⟩) z4).trans fg)
                    | fail)
                have HB5 := Lib.hid (HB9.out.on hw5)
                clear hw5 hb5'
                by_cases hfv : 0 ≤ fv
                · have hp := HSTK.out.2.2.1 trivial trivial hfv
                  have HP := Lib.hid hp
                  clear hp
                  go_wp2
                  go_roundw
                  case rel => exact ⟨k + 1, 6, by go_num, rfl, Lib.hid (.inr ⟨by decide, HP.out.symm⟩), HB5.out⟩
                  case measure => simp [intOf]; have := HKL.out; omega
                · have hra := HSTK.out.2.2.2 trivial trivial (by omega)
                  have HRA := Lib.hid hra
                  clear hra
                  go_wp2
                  go_roundw
                  case rel => exact ⟨k + 1, 0, by go_num, rfl, Lib.hid (.inl ⟨rfl, HKL.out, HRA.out⟩), HB5.out⟩
                  case measure => simp [intOf]; have := HKL.out; omega
              · have hk0i : (0 : Int) < (k : Int) := by omega
                have hwk := HWK.out hk0
                have hk1i : ((k - 1 : Nat) : Int) < (l.length : Int) := by omega
                go_quiet (fail)
                go_upto_region 9 with fail
                obtain ⟨W9, hW9⟩ : ∃ W9, wr.drew.drewN nq = W9 := ⟨_, rfl⟩
                have hb9 : Below wr.heap.size wr W9 := by rw [← hW9]; exact below_drewN (Below.refl wr.heap.size wr).drew _
                rw [hW9]
                have f0 := (hb9.cell (p := ⟨B, 0, none⟩) (cell_lt' e0)).trans e0
                have f1 := (hb9.cell (p := ⟨B, 1, none⟩) (cell_lt' e1)).trans e1
                have fx := (hb9.cell (p := ⟨b3, off3 + k, none⟩) (cell_lt' hx)).trans hx
                have g1' : wr.cell? ⟨b4, off4 + X * 3, none⟩ = some (.int .i64 gx) := g1
                have fg := (hb9.cell (p := ⟨b4, off4 + X * 3, none⟩) (cell_lt' g1')).trans g1'
                have z0 : B < W9.heap.size := cell_lt' f0
                have z3 : b3 < W9.heap.size := cell_lt' fx
                have z4 : b4 < W9.heap.size := cell_lt' fg
                have HB9 := Lib.hid (HBL.out.on hb9)
                have hwr9 := HB1.out.on HB9.out
                have HWR9 := Lib.hid hwr9
                clear hW9 hb9 e0 e1 hx g1 g1' hx7 k0 k1 hwr9
                go_region_held3 (fun W => W.cell? ⟨B, 0, none⟩ = some (.int .i64 (m : Int)) ∧ W.cell? ⟨B, 1, none⟩ = some (.slice (some ⟨b4, off4, none⟩) cs.length cap) ∧ W.cell? ⟨b3, off3 + k, none⟩ = some (.int .i64 (X : Int)) ∧ W.cell? ⟨b4, off4 + X * 3, none⟩ = some (.int .i64 gx)) (first | exact ⟨f0, f1, fx, fg⟩ | exact ⟨h0, h1, h2, h3⟩ | go_keep)
                  (first
                    | (go_at_call 52; refine (HFF.out _ (HWR9.out.on ((Below.refl _ _).drew))).mono ?_; rintro e w5 ⟨rfl, hb5'⟩; have hw5 : Below W9.heap.size W9 w5 := ((Below.refl _ _).drew).on hb5'; have h0 := (hw5.cell (p := ⟨B, 0, none⟩) z0).trans f0; have h1 := (hw5.cell (p := ⟨B, 1, none⟩) z0).trans f1; have h2 := (hw5.cell (p := ⟨b3, off3 + k, none⟩) z3).trans fx; have h3 := (hw5.cell (p := ⟨b4, off4 + X * 3, none⟩) z4).trans fg)
                    | fail)
                have HB5 := Lib.hid (HB9.out.on hw5)
                clear hw5 hb5'
                by_cases hfv : 0 ≤ fv
                · have hp := HSTK.out.2.2.1 trivial trivial hfv
                  have HP := Lib.hid hp
                  clear hp
                  go_wp2
                  go_roundw
                  case rel => exact ⟨k + 1, 6, by go_num, rfl, Lib.hid (.inr ⟨by decide, HP.out.symm⟩), HB5.out⟩
                  case measure => simp [intOf]; have := HKL.out; omega
                · have hra := HSTK.out.2.2.2 trivial trivial (by omega)
                  have HRA := Lib.hid hra
                  clear hra
                  go_wp2
                  go_roundw
                  case rel => exact ⟨k + 1, 0, by go_num, rfl, Lib.hid (.inl ⟨rfl, HKL.out, HRA.out⟩), HB5.out⟩
                  case measure => simp [intOf]; have := HKL.out; omega
        · obtain rfl : k = l.length := by omega
          have hdn := HDON.out hrat
          obtain ⟨hin, hans, hoe⟩ := hdn
          have HANS := Lib.hid hans
          have HBE := Lib.hid (HB1.out.on hbl)
          have HOE := Lib.hid hoe
          have HIN := Lib.hid hin
          clear hans hrat hk hkl hoe hin
          by_cases hln : l.length < m
          · have hlni : (l.length : Int) < (m : Int) := by omega
            have hre : ans = 21 := by have h := HANS.out; rwa [if_pos hln] at h
            have HRE := Lib.hid hre
            clear hre hln
            go_wp2
            go_ret
            exact ⟨ret_int HRE.out.symm, HBE.out⟩
          · have hlni : ¬ (l.length : Int) < (m : Int) := by omega
            obtain ⟨ho, ha⟩ := HOE.out hln
            have hdr := HDR.out HIN.out ho ha
            have hre := HANS.out
            rw [if_neg hln] at hre
            obtain ⟨dv, hdv⟩ : ∃ dv, ((List.range m).all fun g : Nat => reach m (chosenS cs l) m g) = dv := ⟨_, rfl⟩
            rw [hdv] at hdr hre
            have HDV := Lib.hid (hdr wr HBE.out)
            have HRE := Lib.hid hre
            clear hre hln hdr hdv ho ha
            cases dv with
            | true =>
              go_wp2_with (go_at_call 53; refine HDV.out.mono ?_; rintro e w6 ⟨rfl, hb6⟩)
              go_ret
              exact ⟨ret_int (by rw [HRE.out]; rfl), HBE.out.on hb6⟩
            | false =>
              go_wp2_with (go_at_call 53; refine HDV.out.mono ?_; rintro e w6 ⟨rfl, hb6⟩)
              go_ret
              exact ⟨ret_int (by rw [HRE.out]; rfl), HBE.out.on hb6⟩
      · have hst : e = pe := by rcases HST.out with ⟨h, _⟩ | ⟨_, h⟩; exact absurd h he; exact h
        have hre : ans = e := by rw [hst]; exact HERR.out (by rw [← hst]; exact he)
        have HRE := Lib.hid hre
        have HBE := Lib.hid (HB1.out.on hbl)
        clear hst hre
        by_cases hkl : k < l.length
        · have hki : (k : Int) < (l.length : Int) := by omega
          clear hkl
          go_wp2
          go_ret
          exact ⟨ret_int HRE.out.symm, HBE.out⟩
        · have hki : ¬ (k : Int) < (l.length : Int) := by omega
          clear hkl
          go_wp2
          go_ret
          exact ⟨ret_int HRE.out.symm, HBE.out⟩
  · have hre : validOf n.toNat cs l = errD n cs := by unfold validOf; rw [errD_nat, if_pos h0]
    rw [hre]
    obtain ⟨e, he⟩ : ∃ e, errD n cs = e := ⟨_, rfl⟩
    rw [he] at c1 h0 ⊢
    unfold hillV
    have C1 := Lib.hid c1
    have HBB := Lib.hid hb0
    clear c1 hr hr2 he hre hb0
    go_enter Try.func13, Try.ntmps13
    go_upto_region 2 with (go_at_call 51; refine C1.out.mono ?_; rintro e w1 ⟨rfl, hb1⟩)
    have HB1 := Lib.hid (HBB.out.on hb1)
    clear hb1
    go_wp2
    go_loopw [5, 6] (fun v i wl => i = .int .i64 0 ∧ v = .int .i64 e ∧ wl = w1) (fun _ i _ => 0)
    case atStart => exact ⟨rfl, rfl, rfl⟩
    case round =>
      obtain ⟨rfl, rfl, rfl⟩ := hrel
      by_cases hkl : 0 < l.length
      · have hki : (0 : Int) < (l.length : Int) := by omega
        clear hkl
        go_wp2
        go_ret
        exact ⟨rfl, HB1.out⟩
      · have hki : ¬ (0 : Int) < (l.length : Int) := by omega
        clear hkl
        go_wp2
        go_ret
        exact ⟨rfl, HB1.out⟩
end Go.Proofs.Ytadamjleglckpaa.drn

/- The reference of stage 2, walked: Cost, Way. -/
namespace Go.Proofs.Ytadamjleglckpaa.drn
open Go.RowKit
set_option linter.unusedSimpArgs false
set_option linter.unusedVariables false
set_option maxRecDepth 100000 in
set_option maxHeartbeats 4000000 in
theorem rCost_any (n : Int) (q : Option Addr) (cap : Nat) (cs : List Ch) (q2 : Option Addr) (c2 : Nat) (l : List Int) (w : World) (hr : RowV w q (flatT cs)) (hr2 : RowV w q2 (flatI l)) (hl : l.length ≤ 1000) (hc2 : l.length ≤ c2) :
    Calls Try.prog 8 #[hillV n q cs.length cap, .slice q2 l.length c2] w (RetK w (costR n.toNat cs l).1 (costR n.toNat cs l).2) := by
  have hb0 : Below w.heap.size w (w.alloc (.cells #[.int .i64 n, .slice q cs.length cap] 28)) := (Below.refl _ _).alloc (Nat.le_refl _) _
  have c1 := rValid_any n q cap cs q2 c2 l _ (hr.below (Nat.le_refl _) hb0) (hr2.below (Nat.le_refl _) hb0) hl hc2
  have HB := Lib.hid hb0
  by_cases h0 : validOf n.toNat cs l = 0
  · obtain ⟨m, rfl, hchs, hpl, _⟩ := valid_plan h0
    obtain ⟨hin, hl6⟩ := plan_in hchs hpl
    have hans : costR ((m : Int).toNat) cs l = (costS cs l, 0) := by rw [costR, if_neg (fun h => h h0)]
    rw [hans]
    have hco := fun W hb => rcost_any m q cap cs q2 c2 l W hchs (hr.below (Nat.le_refl _) hb) (hr2.below (Nat.le_refl _) hb) hin (by omega)
    unfold hillV at *
    rw [h0] at c1
    have C1 := Lib.hid c1
    have HCO := Lib.hid hco
    clear hans h0 hr hr2 hb0 hchs c1 hco hin hpl
    go_enter Try.func8, Try.ntmps8
    go_wp2_with (first
      | (go_at_call 13; refine C1.out.mono ?_; rintro e w1 ⟨rfl, hb1⟩; obtain ⟨hc1, hf1⟩ := bcell hb1; have hac1 : Below w.heap.size w w1 := HB.out.on hb1; have hz0 : w.heap.size < w1.heap.size := (by have := hb1.size; simp at this; omega))
      | (go_at_call 37; refine (HCO.out w1 hac1).mono ?_; rintro e w2 ⟨rfl, hb2⟩))
    go_ret2
    exact ⟨rfl, hac1.on hb2⟩
  · have hans : costR n.toNat cs l = (0, validOf n.toNat cs l) := by rw [costR, if_pos h0]
    rw [hans]
    have hb : (validOf n.toNat cs l != 0) = true := by simpa using h0
    generalize validOf n.toNat cs l = err at c1 hb ⊢
    unfold hillV at *
    have C1 := Lib.hid c1
    clear hans h0 hr hr2 hb0 c1
    go_enter Try.func8, Try.ntmps8
    go_wp2_with (go_at_call 13; refine C1.out.mono ?_; rintro e w1 ⟨rfl, hb1⟩)
    go_ret2
    exact ⟨rfl, HB.out.on hb1⟩
set_option maxRecDepth 100000 in
set_option maxHeartbeats 4000000 in
theorem rWay_any (n : Int) (q : Option Addr) (cap : Nat) (cs : List Ch) (q2 : Option Addr) (c2 : Nat) (l : List Int) (g : Int) (w : World) (hr : RowV w q (flatT cs)) (hr2 : RowV w q2 (flatI l)) (hl : l.length ≤ 1000) (hc2 : l.length ≤ c2) :
    Calls Try.prog 10 #[hillV n q cs.length cap, .slice q2 l.length c2, .int .i64 g] w (RetI w (wayOf n.toNat cs l g).1 (wayOf n.toNat cs l g).2) := by
  have hb0 : Below w.heap.size w (w.alloc (.cells #[.int .i64 n, .slice q cs.length cap] 28)) := (Below.refl _ _).alloc (Nat.le_refl _) _
  have c1 := rValid_any n q cap cs q2 c2 l _ (hr.below (Nat.le_refl _) hb0) (hr2.below (Nat.le_refl _) hb0) hl hc2
  have HB := Lib.hid hb0
  by_cases h0 : validOf n.toNat cs l = 0
  · obtain ⟨m, rfl, hchs, hpl, _⟩ := valid_plan h0
    obtain ⟨hin, hl6⟩ := plan_in hchs hpl
    have heach := plan_each hchs.ok hpl
    have hall : ∀ g : Nat, g < m → ∃ x ∈ l, frm cs x = g := fun g hg => by
      obtain ⟨c, hcm, h1⟩ := heach.2.1 g hg
      obtain ⟨x, hxm, rfl⟩ := List.mem_map.1 hcm
      exact ⟨x, hxm, h1⟩
    have hans : wayOf ((m : Int).toNat) cs l g = if !isGal m g then ([], 2) else (wayF m (chosenS cs l) m g, 0) := by
      unfold wayOf
      rw [if_neg (fun h => h h0), Int.toNat_natCast]
    obtain ⟨gg, hgg⟩ : ∃ gg, isGal m g = gg := ⟨_, rfl⟩
    have HI := Lib.hid (fun W => rin_is (a := g) (b := 0) (c := (m : Int) - 1) (v := gg) (by rw [← isGal_in]; exact hgg) W)
    have hwm : IntKind.i64.wrap ((m : Int) - 1) = (m : Int) - 1 := IntWalk.i64_in _ ⟨by have := hchs.n6; omega, by have := hchs.n6; omega⟩
    rw [hans, hgg]
    have hwf := fun (hg : gg = true) W hb => rway_any m g.toNat q cap cs q2 c2 l W hchs (hr.below (Nat.le_refl _) hb) (hr2.below (Nat.le_refl _) hb) hin hl heach hall (by have := (isGal_iff _ _).1 (hgg.trans hg); omega)
    have hgn : gg = true → ((g.toNat : Nat) : Int) = g := fun hg => by have := (isGal_iff _ _).1 (hgg.trans hg); omega
    unfold hillV at *
    rw [h0] at c1
    have C1 := Lib.hid c1
    obtain ⟨B, hB⟩ : ∃ B, w.heap.size = B := ⟨_, rfl⟩
    have hc0 : (w.alloc (.cells #[.int .i64 (m : Int), .slice q cs.length cap] 28)).cell? ⟨B, 0, none⟩ = some (.int .i64 (m : Int)) ∧ (w.alloc (.cells #[.int .i64 (m : Int), .slice q cs.length cap] 28)).cell? ⟨B, 1, none⟩ = some (.slice q cs.length cap) := by rw [← hB]; simp
    have HC0 := Lib.hid hc0
    have HBE := Lib.hid hB
    clear hB hc0
    cases gg with
    | false =>
      clear hans h0 hr hr2 hb0 hchs c1 hin hpl heach hgg hwf hgn hall
      go_enter Try.func10, Try.ntmps10
      go_upto_region 1 with fail
      have hbe := HBE.out
      rw [hbe]
      clear hbe
      obtain ⟨c0, c1⟩ := HC0.out
      generalize (w.alloc (.cells #[.int .i64 (m : Int), .slice q cs.length cap] 28)) = W0 at *
      go_upto_region 2 with (go_at_call 13; refine C1.out.mono ?_; rintro e w1 ⟨rfl, hb1⟩)
      have d0 := (hb1.cell (p := ⟨B, 0, none⟩) (cell_lt' c0)).trans c0
      have d1 := (hb1.cell (p := ⟨B, 1, none⟩) (cell_lt' c1)).trans c1
      have HB1 := Lib.hid (HB.out.on hb1)
      clear hb1
      go_wp2_with (go_at_call 43; refine (HI.out _).mono ?_; rintro e w5 ⟨rfl, rfl⟩)
      go_ret2
      exact ⟨none, 0, rfl, .inl rfl, fun _ => rfl, by simp, HB1.out⟩
    | true =>
      have hw := hwf rfl
      rw [hgn rfl] at hw
      have HW := Lib.hid hw
      clear hans h0 hr hr2 hb0 hchs c1 hin hpl heach hgg hwf hgn hall hw
      show Calls _ _ _ _ (RetI w (wayF m (chosenS cs l) m g) 0)
      generalize wayF m (chosenS cs l) m g = wy at HW ⊢
      go_enter Try.func10, Try.ntmps10
      go_upto_region 1 with fail
      have hbe := HBE.out
      rw [hbe]
      clear hbe
      obtain ⟨c0, c1⟩ := HC0.out
      generalize (w.alloc (.cells #[.int .i64 (m : Int), .slice q cs.length cap] 28)) = W0 at *
      go_upto_region 2 with (go_at_call 13; refine C1.out.mono ?_; rintro e w1 ⟨rfl, hb1⟩)
      have d0 := (hb1.cell (p := ⟨B, 0, none⟩) (cell_lt' c0)).trans c0
      have d1 := (hb1.cell (p := ⟨B, 1, none⟩) (cell_lt' c1)).trans c1
      have HB1 := Lib.hid (HB.out.on hb1)
      clear hb1
      go_wp2_with (first
        | (go_at_call 43; refine (HI.out _).mono ?_; rintro e w5 ⟨rfl, rfl⟩)
        | (go_at_call 44; refine (HW.out w1 HB1.out).mono ?_; rintro e w6 ⟨v6, rfl, hown6, hb6⟩; obtain ⟨q6, c6, rfl, hr6, hq6, hz6⟩ := rowV_of_owns hown6 (by intro h; rw [List.length_eq_zero_iff] at h; rw [h]; rfl)))
      go_ret2
      exact ⟨q6, c6, rfl, hr6, hq6, fun a h => ⟨Nat.le_trans HB1.out.size (hz6 a h).1, (hz6 a h).2⟩, HB1.out.on hb6⟩
  · have hans : wayOf n.toNat cs l g = ([], validOf n.toNat cs l) := by rw [wayOf, if_pos h0]
    rw [hans]
    have hb : (validOf n.toNat cs l != 0) = true := by simpa using h0
    generalize validOf n.toNat cs l = err at c1 hb h0 ⊢
    unfold hillV at *
    have C1 := Lib.hid c1
    clear hans hb hr hr2 hb0 c1
    go_enter Try.func10, Try.ntmps10
    go_wp2_with (go_at_call 13; refine C1.out.mono ?_; rintro e w1 ⟨rfl, hb1⟩)
    go_ret2
    exact ⟨none, 0, rfl, .inl rfl, fun _ => rfl, by simp, HB.out.on hb1⟩
end Go.Proofs.Ytadamjleglckpaa.drn

/- Arguments of drain that lead into memory: a hill, a list of ints, an int. -/
namespace Go.Proofs.Ytadamjleglckpaa.drn
open Go.RowKit Go.ChangeShapes Go.WideShapes Go.Deep
set_option linter.unusedSimpArgs false
set_option linter.unusedVariables false

theorem rowT_make {w : World} {b off : Nat} {cs : List Ch} (hz : b < w.heap.size)
    (h : ∀ i, i < cs.length → w.cell? ⟨b, off + i * 3, none⟩ = some (.int .i64 (cs.getD i (0, 0, 0)).1) ∧ w.cell? ⟨b, off + i * 3 + 1, none⟩ = some (.int .i64 (cs.getD i (0, 0, 0)).2.1) ∧ w.cell? ⟨b, off + i * 3 + 2, none⟩ = some (.int .i64 (cs.getD i (0, 0, 0)).2.2)) :
    RowV w (some ⟨b, off, none⟩) (flatT cs) := by
  refine .inr ⟨b, off, rfl, hz, fun i v hi => ?_⟩
  have hl : i < (flatT cs).length := (List.getElem?_eq_some_iff.1 hi).1
  rw [flatT_length] at hl
  have hj : i / 3 < cs.length := by omega
  obtain ⟨g0, g1, g2⟩ := flatT_get cs (i / 3) hj
  obtain ⟨k0, k1, k2⟩ := h (i / 3) hj
  have hr : i % 3 = 0 ∨ i % 3 = 1 ∨ i % 3 = 2 := by omega
  rcases hr with hr | hr | hr
  · have e : i = i / 3 * 3 := by omega
    rw [e] at hi
    rw [g0] at hi
    injection hi with hi
    rw [show off + i = off + i / 3 * 3 by omega, k0, hi]
  · have e : i = i / 3 * 3 + 1 := by omega
    rw [e] at hi
    rw [g1] at hi
    injection hi with hi
    rw [show off + i = off + i / 3 * 3 + 1 by omega, k1, hi]
  · have e : i = i / 3 * 3 + 2 := by omega
    rw [e] at hi
    rw [g2] at hi
    injection hi with hi
    rw [show off + i = off + i / 3 * 3 + 2 by omega, k2, hi]
theorem rowI_make {w : World} {b off : Nat} {l : List Int} (hz : b < w.heap.size) (h : ∀ i, i < l.length → w.cell? ⟨b, off + i, none⟩ = some (.int .i64 (l.getD i 0))) : RowV w (some ⟨b, off, none⟩) (flatI l) := by
  refine .inr ⟨b, off, rfl, hz, fun i v hi => ?_⟩
  have hl : i < (flatI l).length := (List.getElem?_eq_some_iff.1 hi).1
  have hl' : i < l.length := by simpa [flatI] using hl
  have e : (flatI l)[i]? = some (.int .i64 (l.getD i 0)) := by
    unfold flatI
    rw [List.getElem?_map, List.getElem?_eq_getElem hl', List.getD_eq_getElem?_getD, List.getElem?_eq_getElem hl']
    rfl
  rw [e] at hi
  injection hi with hi
  rw [h i hl', hi]

section
variable {H : Type} {enc : TypeId × Value → H} {P : Program} {w : World} {base : Nat} {sp : Nat → Bool} {hd : Bool}
theorem tri_gen {e : TypeId} (hu : P.underlying e = some (.array 3 3)) (hu3 : P.underlying 3 = some (.int .i64)) (c3 : P.cellsOf 3 = 1)
    {fuel : Nat} {cs : List Value} {x : DataW H × List MemPlace} (hl : cs.length = 3) (h : DataW.trod enc P w base sp hd fuel e cs = some x) : ∃ g : Ch, cs = [.int .i64 g.1, .int .i64 g.2.1, .int .i64 g.2.2] := by
  match cs, hl with
  | [a, b, c], _ =>
    obtain ⟨y0, y1, y2, n, _, g0, g1, g2⟩ := trod_array3 hu c3 h
    obtain ⟨z0, e0, _, _⟩ := DataW.trod_int hu3 g0
    obtain ⟨z1, e1, _, _⟩ := DataW.trod_int hu3 g1
    obtain ⟨z2, e2, _, _⟩ := DataW.trod_int hu3 g2
    injection e0 with e0 _
    injection e1 with e1 _
    injection e2 with e2 _
    subst e0; subst e1; subst e2
    exact ⟨(z0, z1, z2), rfl⟩
theorem addr_spot {a : Addr} {v : Value} (h : w.cell? a = some v) : a = ⟨a.block, a.off, none⟩ ∧ a.block < w.heap.size := by
  obtain ⟨b, o, s⟩ := a
  unfold World.cell? at h
  split at h
  · rename_i c e f hh
    cases s with
    | none => exact ⟨rfl, (Array.getElem?_eq_some_iff.1 hh).1⟩
    | some k => simp at h
  · cases h
theorem add_none (b o i : Nat) : (⟨b, o, none⟩ : Addr).add i = ⟨b, o + i, none⟩ := by
  unfold Addr.add
  split
  · rename_i h; subst h; rfl
  · rfl
/-- channels that lie in memory -/
theorem chans_gen {t e : TypeId} (ht : P.underlying t = some (.slice e)) (ce : P.cellsOf e = 3) (hu : P.underlying e = some (.array 3 3)) (hu3 : P.underlying 3 = some (.int .i64)) (c3 : P.cellsOf 3 = 1)
    {fuel : Nat} {cs : List Value} {x : DataW H × List MemPlace} (h : DataW.trod enc P w 0 (fun _ => true) hd fuel t cs = some x) :
    ∃ q cap, ∃ gs : List Ch, cs = [.slice q gs.length cap] ∧ RowV w q (flatT gs) ∧ gs.length ≤ cap := by
  rcases open_slice ht h with ⟨rfl, _⟩ | ⟨a, len, cap, m, n, D, Pl, rfl, hb, hl, hm, hmm, _, hx⟩
  · exact ⟨none, 0, [], rfl, .inl rfl, Nat.le_refl _⟩
  · rw [ce] at hx
    have hm' : m = cap := by rw [hmm]; rfl
    obtain ⟨f, hf⟩ := choose_lt (α := Ch) (n := len) (p := fun i g => w.cell? (a.add (i * 3)) = some (.int .i64 g.1) ∧ w.cell? ((a.add (i * 3)).add 1) = some (.int .i64 g.2.1) ∧ w.cell? ((a.add (i * 3)).add 2) = some (.int .i64 g.2.2)) (fun i hi => by
      obtain ⟨cs', h1, h2⟩ := hx i (by omega)
      obtain ⟨hk1, hk2, hc⟩ := World.cells?_some h1
      obtain ⟨g, rfl⟩ := tri_gen hu hu3 c3 (by first | exact hk1 | exact hk2 | (simp at hk1 hk2 ⊢; omega)) h2
      have e0 := hc 0 (by omega)
      have e1 := hc 1 (by omega)
      have e2 := hc 2 (by omega)
      refine ⟨g, ?_, ?_, ?_⟩
      · simpa [Addr.add] using e0
      · simpa using e1
      · simpa using e2)
    refine ⟨some a, cap, (List.range len).map f, by simp, ?_, by simpa using hl⟩
    by_cases h0 : len = 0
    · subst h0; exact .inl rfl
    · obtain ⟨k0, _, _⟩ := hf 0 (by omega)
      have ha0 : a.add (0 * 3) = a := by simp [Addr.add]
      rw [ha0] at k0
      obtain ⟨hs, hz⟩ := addr_spot k0
      generalize a.block = b at *
      generalize a.off = o at *
      subst hs
      refine rowT_make hz fun i hi => ?_
      have hi' : i < len := by simpa using hi
      obtain ⟨k1, k2, k3⟩ := hf i hi'
      have eg : ((List.range len).map f).getD i (0, 0, 0) = f i := by simp [List.getD, hi']
      rw [eg]
      rw [add_none] at k1 k2 k3
      rw [add_none] at k2 k3
      exact ⟨k1, k2, k3⟩
theorem ints_gen {t : TypeId} (ht : P.underlying t = some (.slice 3)) (h3 : P.underlying 3 = some (.int .i64)) (c3 : P.cellsOf 3 = 1)
    {fuel : Nat} {cs : List Value} {x : DataW H × List MemPlace} (h : DataW.trod enc P w 0 (fun _ => true) hd fuel t cs = some x) :
    ∃ q cap, ∃ xs : List Int, cs = [.slice q xs.length cap] ∧ RowV w q (flatI xs) ∧ xs.length ≤ cap := by
  rcases open_ints ht h3 c3 h with ⟨rfl, _⟩ | ⟨a, len, cap, zs, rfl, hb, hl, hm, hzl, _, hc, _⟩
  · exact ⟨none, 0, [], rfl, .inl rfl, Nat.le_refl _⟩
  · have hzl' : zs.length = cap := hzl
    have hlen : (zs.take len).length = len := by rw [List.length_take]; omega
    refine ⟨some a, cap, zs.take len, by rw [hlen], ?_, by omega⟩
    by_cases h0 : len = 0
    · subst h0; exact .inl (by simp [flatI])
    · have k0 := hc 0 (by omega)
      have ha0 : a.add 0 = a := by simp [Addr.add]
      rw [ha0] at k0
      obtain ⟨hs, hz⟩ := addr_spot k0
      generalize a.block = b at *
      generalize a.off = o at *
      subst hs
      refine rowI_make hz fun i hi => ?_
      rw [hlen] at hi
      have k1 := hc i (by omega)
      rw [add_none] at k1
      rw [k1]
      congr 2
      rw [getD_eq _ _ 0 (by omega), getD_eq _ _ 0 (by omega)]
      simp
theorem hill_gen {t u : TypeId} {f0 f1 : Field} (hu : P.underlying t = some (.struct #[f0, f1])) (hu3 : P.underlying 3 = some (.int .i64)) (ct : P.cellsOf t = 2) (c3 : P.cellsOf 3 = 1) (cu : P.cellsOf u = 1)
    (t0 : f0.type = 3) (t1 : f1.type = u) (o0 : f0.offset = 0) (o1 : f1.offset = 1)
    (hg : ∀ {fuel : Nat} {cs : List Value} {x : DataW H × List MemPlace}, DataW.trod enc P w 0 (fun _ => true) hd fuel u cs = some x → ∃ q cap, ∃ gs : List Ch, cs = [.slice q gs.length cap] ∧ RowV w q (flatT gs) ∧ gs.length ≤ cap)
    {r : Reach} {b0 : Nat} {v : Value} {d : DataW H} {ps : List MemPlace} (hv : Value.okWide P w r b0 t v) (h : DataW.Trod enc P w 0 (fun _ => true) hd t v d ps) :
    ∃ (n : Int) (q : Option Addr) (cap : Nat) (gs : List Ch), v = .agg #[.int .i64 n, .slice q gs.length cap] ∧ RowV w q (flatT gs) ∧ gs.length ≤ cap := by
  unfold Value.okWide at hv
  rw [hu] at hv
  obtain ⟨⟨cs⟩, rfl, hsz, _⟩ := hv
  obtain ⟨fuel, hf0⟩ := h
  obtain ⟨xs, n, hk, hxy, hl, hxl, hf⟩ := DataW.trod_struct hu hf0
  rw [ct] at hsz
  have g0 := hf 0 f0 rfl
  have g1 := hf 1 f1 rfl
  rw [t0, o0, c3] at g0
  rw [t1, o1, cu] at g1
  match cs, hsz, xs, hxl with
  | [a, b], _, [y0, y1], _ =>
    obtain ⟨z0, e0, _, _⟩ := DataW.trod_int hu3 (show DataW.trod enc P w 0 (fun _ => true) hd n 3 [a] = some y0 from g0)
    obtain ⟨q, cap, gs, e1, hr, hq⟩ := hg (show DataW.trod enc P w 0 (fun _ => true) hd n u [b] = some y1 from g1)
    injection e0 with e0 _
    injection e1 with e1 _
    subst e0; subst e1
    exact ⟨z0, q, cap, gs, rfl, hr, hq⟩
theorem cells_slice {t e : TypeId} (hu : P.underlying t = some (.slice e)) {r : Reach} {b0 : Nat} {v : Value} (hv : Value.okWide P w r b0 t v) : v.cells.toList = [v] := by
  unfold Value.okWide at hv
  rw [hu] at hv
  unfold Cell.okWide at hv
  rw [hu] at hv
  cases v <;> first | rfl | (exfalso; simp [Cell.ok, hu] at hv)
theorem cells_int {t : TypeId} {k : IntKind} (hu : P.underlying t = some (.int k)) {r : Reach} {b0 : Nat} {v : Value} (hv : Value.okWide P w r b0 t v) : v.cells.toList = [v] := by
  unfold Value.okWide at hv
  rw [hu] at hv
  unfold Cell.okWide at hv
  rw [hu] at hv
  cases v <;> first | rfl | (exfalso; simp [Cell.ok, hu] at hv)
end
section
variable {H : Type} {enc : TypeId × Value → H} {w : World} {hd : Bool}
theorem cellsTri : Try.prog.cellsOf 45 = 3 := by kernel_rfl
theorem cellsHill : Try.prog.cellsOf 24 = 2 := by kernel_rfl
theorem cellsChs : Try.prog.cellsOf 22 = 1 := by kernel_rfl
theorem cells3i : Try.prog.cellsOf 3 = 1 := by kernel_rfl
set_option maxRecDepth 100000 in
theorem hill_of {r : Reach} {b0 : Nat} {v : Value} {d : DataW H} {ps : List MemPlace} (hv : Value.okWide Try.prog w r b0 24 v) (h : DataW.Trod enc Try.prog w 0 (fun _ => true) hd 24 v d ps) :
    ∃ (n : Int) (q : Option Addr) (cap : Nat) (gs : List Ch), v = .agg #[.int .i64 n, .slice q gs.length cap] ∧ RowV w q (flatT gs) ∧ gs.length ≤ cap :=
  hill_gen (P := Try.prog) Try.underlying24 Try.underlying3 cellsHill cells3i cellsChs rfl rfl rfl rfl (chans_gen Try.underlying22 cellsTri Try.underlying45 Try.underlying3 cells3i) hv h
set_option maxRecDepth 100000 in
theorem ints_of {r : Reach} {b0 : Nat} {v : Value} {d : DataW H} {ps : List MemPlace} (hv : Value.okWide Try.prog w r b0 25 v) (h : DataW.Trod enc Try.prog w 0 (fun _ => true) hd 25 v d ps) :
    ∃ q cap, ∃ xs : List Int, v = .slice q xs.length cap ∧ RowV w q (flatI xs) ∧ xs.length ≤ cap := by
  obtain ⟨fuel, hf⟩ := h
  obtain ⟨q, cap, xs, e, h2⟩ := ints_gen Try.underlying25 Try.underlying3 cells3i hf
  rw [cells_slice Try.underlying25 hv] at e
  injection e with e _
  exact ⟨q, cap, xs, e, h2⟩
set_option maxRecDepth 100000 in
theorem int_of {r : Reach} {b0 : Nat} {v : Value} {d : DataW H} {ps : List MemPlace} (hv : Value.okWide Try.prog w r b0 3 v) (h : DataW.Trod enc Try.prog w 0 (fun _ => true) hd 3 v d ps) :
    ∃ z : Int, v = .int .i64 z := by
  obtain ⟨fuel, hf⟩ := h
  obtain ⟨z, e, _⟩ := DataW.trod_int Try.underlying3 hf
  rw [cells_int Try.underlying3 hv] at e
  injection e with e _
  exact ⟨z, e⟩
end
end Go.Proofs.Ytadamjleglckpaa.drn

