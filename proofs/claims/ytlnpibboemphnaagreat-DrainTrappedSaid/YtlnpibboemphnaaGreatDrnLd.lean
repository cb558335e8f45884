/- Kit for the bodies of drain's statements: loads of an Adit, powers of two, sets; one scan's step. -/
import Derived.Test.YtlnpibboemphnaaGreatQa3
import Derived.Test.YtlnpibboemphnaaGreatDrnOc
import Derived.Test.YtlnpibboemphnaaGreatDrnTp
import Derived.BigRegion
namespace Go.Proofs.YtlnpibboemphnaaGreat.drn
open Go.RowKit
set_option linter.unusedSimpArgs false
set_option linter.unusedVariables false
theorem sizeAdit : (Tryz.prog.info? 25).map (·.size) = some 22 := by kernel_rfl
theorem wpList_loadA {ops : Array Oper} {rest : List Oper} {op : Oper} {a : Act} {w : World} {Q : Exit → Act → World → Prop} (xs : List Int) (hxl : xs.length = 22) (B : Nat) (hb : BoxAt w B xs) (x : Operand) (hgd : op.guard = none) (ho : op.op = .load 25 x)
    (hx : a.eval x = .pointer (some ⟨B, 0, none⟩)) (h : wpList Tryz.prog ops Q rest (a.put op.dst (.agg (flat8 xs).toArray)) w) : wpList Tryz.prog ops Q (op :: rest) a w :=
  wpList_load_mid hgd 25 x ho B 0 hx (flat8 xs) _ hb.2 Tryz.underlying25 rfl (by rw [flat8_length, hxl]; exact sizeAdit) h
theorem two6 (n : Nat) (h : n ≤ 6) : ∃ P : Nat, Hid (2 ^ n = P) ∧ wrap64 (2 ^ n) = (P : Int) ∧ 0 < P ∧ P ≤ 64 ∧ ¬ (P : Int) = 0 := by
  have key : ∀ k : Nat, k ≤ 6 → wrap64 (2 ^ k) = ((2 ^ k : Nat) : Int) ∧ 0 < 2 ^ k ∧ 2 ^ k ≤ 64 := by decide +kernel
  obtain ⟨h1, h2, h3⟩ := key n h
  refine ⟨2 ^ n, Lib.hid rfl, h1, h2, h3, ?_⟩
  generalize 2 ^ n = P at h2
  omega
theorem listS_len (s : Nat) : (listS s).length ≤ 6 := by
  unfold listS
  rw [List.length_map]
  exact Nat.le_trans (List.length_filter_le _ _) (by rw [List.length_range]; exact Nat.le_refl _)
theorem uniS_step (C : Nat → Bool) {k : Nat} (h : 1 ≤ k) : uniS C (k + 1) = if C k = true then uniS C k ||| k else uniS C k := by
  rw [uniS]
  by_cases hC : C k = true
  · rw [if_pos ⟨h, hC⟩, if_pos hC]
  · rw [if_neg (fun x => hC x.2), if_neg hC]
end Go.Proofs.YtlnpibboemphnaaGreat.drn
