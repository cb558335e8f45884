/- Package drain, the walks: somePlans, Cheapest, Least. -/
import Derived.Test.YtlkdkamhebggbaaQa4
import Derived.Test.YtlkdkamhebggbaaQa2
import Derived.WalkSpells

namespace Go.Proofs.Ytlkdkamhebggbaa.drn
open Go.RowKit
set_option linter.unusedSimpArgs false
set_option linter.unusedVariables false

/-- lists that a call has made, and an error -/
def RetLE (w : World) (ls : List (List Int)) (err : Int) (e : Ending) (w' : World) : Prop :=
  ∃ q c vs, e = .returned (.tuple #[.slice q ls.length c, .int .i64 err]) ∧ vs.length = ls.length ∧ (ls = [] → q = none ∧ c = 0) ∧ ListsAt w' w.heap.size q vs ls ∧ Below w.heap.size w w'
theorem listsAt_nil (w : World) (lo : Nat) : ListsAt w lo none [] [] := ⟨.inl rfl, trivial, by simp⟩
def someS (n : Nat) (cs : List Ch) : List (List Int) × Int := if errD n cs ≠ 0 then ([], errD n cs) else if (plansS n cs).length = 0 then ([], 12) else (plansS n cs, 0)

set_option maxRecDepth 100000 in
theorem somePlans_any (n : Int) (q : Option Addr) (cap : Nat) (cs : List Ch) (w : World) (hr : RowV w q (flatT cs)) (hcap : cs.length ≤ cap) :
    Calls Try.prog 15 #[hillV n q cs.length cap] w (RetLE w (someS n.toNat cs).1 (someS n.toNat cs).2) := by
  have hb0 : Below w.heap.size w (w.alloc (.cells #[.int .i64 n, .slice q cs.length cap] 28)) := (Below.refl _ _).alloc (Nat.le_refl _) _
  have c1 := Check_any n q cap cs _ (hr.below (Nat.le_refl _) hb0) hcap
  have HR := Lib.hid hr
  have HB := Lib.hid hb0
  by_cases h0 : errD n cs = 0
  · obtain ⟨m, rfl, hchs⟩ := chs_of h0
    have hans : someS ((m : Int).toNat) cs = if (plansS m cs).length = 0 then ([], 12) else (plansS m cs, 0) := by
      unfold someS
      rw [Int.toNat_natCast, if_neg (by rw [h0]; simp)]
    have hpl := fun W hb => plansOf_any m q cap cs W hchs (hr.below (Nat.le_refl _) hb)
    generalize plansS m cs = ls at hans hpl
    unfold hillV at *
    rw [h0] at c1
    have C1 := Lib.hid c1
    have HPL := Lib.hid hpl
    by_cases hls : ls.length = 0
    · rw [hans, if_pos hls]
      have hlb : ((ls.length : Int) == 0) = true := by simp [hls]
      clear hans h0 hr hb0 hchs c1 hpl hls
      go_enter Try.func15, Try.ntmps15
      go_wp2_with (first
        | (go_at_call 17; refine C1.out.mono ?_; rintro e w1 ⟨rfl, hb1⟩; obtain ⟨hc1, hf1⟩ := bcell hb1; have hac1 : Below w.heap.size w w1 := HB.out.on hb1; have hz0 : w.heap.size < w1.heap.size := (by have := hb1.size; simp at this; omega))
        | (go_at_call 18; refine (HPL.out w1 hac1).mono ?_; rintro e w2 ⟨q2, c2, vs, rfl, hvl, hnil, hlsA, hb2, _⟩))
      go_ret2
      exact ⟨none, 0, [], rfl, rfl, fun _ => ⟨rfl, rfl⟩, listsAt_nil _ _, hac1.on hb2⟩
    · rw [hans, if_neg hls]
      have hlb : ((ls.length : Int) == 0) = false := beq_eq_false_iff_ne.2 (by omega)
      clear hans h0 hr hb0 hchs c1 hpl hls
      go_enter Try.func15, Try.ntmps15
      go_wp2_with (first
        | (go_at_call 17; refine C1.out.mono ?_; rintro e w1 ⟨rfl, hb1⟩; obtain ⟨hc1, hf1⟩ := bcell hb1; have hac1 : Below w.heap.size w w1 := HB.out.on hb1; have hz0 : w.heap.size < w1.heap.size := (by have := hb1.size; simp at this; omega))
        | (go_at_call 18; refine (HPL.out w1 hac1).mono ?_; rintro e w2 ⟨q2, c2, vs, rfl, hvl, hnil, hlsA, hb2, _⟩))
      go_ret2
      exact ⟨q2, c2, vs, rfl, hvl, hnil, hlsA.lower hac1.size, hac1.on hb2⟩
  · have hans : someS n.toNat cs = ([], errD n cs) := by
      unfold someS
      rw [errD_nat, if_pos h0]
    rw [hans]
    have hb : (errD n cs != 0) = true := by simpa using h0
    unfold hillV at *
    have C1 := Lib.hid c1
    clear hans h0 hr hb0 c1
    go_enter Try.func15, Try.ntmps15
    go_wp2_with (go_at_call 17; refine C1.out.mono ?_; rintro e w1 ⟨rfl, hb1⟩)
    go_ret2
    exact ⟨none, 0, [], rfl, rfl, fun _ => ⟨rfl, rfl⟩, listsAt_nil _ _, HB.out.on hb1⟩

/-- what somePlans answers: an error, or plans -/
theorem someS_cases (n : Int) (cs : List Ch) : ((someS n.toNat cs).1 = [] ∧ (someS n.toNat cs).2 ≠ 0) ∨ ∃ (m : Nat) (p : List Int) (ps : List (List Int)), n = m ∧ Chs m cs ∧ plansS m cs = p :: ps ∧ someS n.toNat cs = (p :: ps, 0) := by
  by_cases h0 : errD n cs = 0
  · obtain ⟨m, rfl, hchs⟩ := chs_of h0
    have hans : someS ((m : Int).toNat) cs = if (plansS m cs).length = 0 then ([], 12) else (plansS m cs, 0) := by
      unfold someS
      rw [Int.toNat_natCast, if_neg (by rw [h0]; simp)]
    by_cases hls : (plansS m cs).length = 0
    · rw [hans, if_pos hls]
      exact .inl ⟨rfl, by decide⟩
    · rw [hans, if_neg hls]
      cases hp : plansS m cs with
      | nil => rw [hp] at hls; simp at hls
      | cons p ps => exact .inr ⟨m, p, ps, rfl, hchs, hp, rfl⟩
  · have hans : someS n.toNat cs = ([], errD n cs) := by
      unfold someS
      rw [errD_nat, if_pos h0]
    rw [hans]
    exact .inl ⟨rfl, h0⟩
theorem cheapest_some (n : Nat) (cs : List Ch) : cheapestOf n cs = match (someS n cs).1 with
    | [] => ([], (someS n cs).2)
    | p :: ps => (minG (fun p => (costS cs p).toNat) p ps, 0) := by
  unfold cheapestOf someS
  by_cases h0 : errD n cs = 0
  · rw [if_neg (fun h => h h0), if_neg (fun h => h h0)]
    generalize plansS n cs = ls
    cases ls with
    | nil => rfl
    | cons p ps => rw [cheapS, minG_first]; rfl
  · rw [if_pos h0, if_pos h0]
theorem least_some (n : Nat) (cs : List Ch) : leastOf n cs = match (someS n cs).1 with
    | [] => (0, (someS n cs).2)
    | p :: ps => (leastS cs (p :: ps), 0) := by
  by_cases h0 : errD n cs = 0
  · have e1 : leastOf n cs = if (plansS n cs).length = 0 then (0, 12) else (leastS cs (plansS n cs), 0) := by rw [leastOf, if_neg (fun h => h h0)]
    have e2 : someS n cs = if (plansS n cs).length = 0 then ([], 12) else (plansS n cs, 0) := by rw [someS, if_neg (fun h => h h0)]
    rw [e1, e2]
    generalize plansS n cs = ls
    cases ls with
    | nil => rfl
    | cons p ps => rfl
  · have e1 : leastOf n cs = (0, errD n cs) := by rw [leastOf, if_pos h0]
    have e2 : someS n cs = ([], errD n cs) := by rw [someS, if_pos h0]
    rw [e1, e2]

set_option maxRecDepth 100000 in
theorem Cheapest_any (n : Int) (q : Option Addr) (cap : Nat) (cs : List Ch) (w : World) (hr : RowV w q (flatT cs)) (hcap : cs.length ≤ cap) :
    Calls Try.prog 29 #[hillV n q cs.length cap] w (RetI w (cheapestOf n.toNat cs).1 (cheapestOf n.toNat cs).2) := by
  have hb0 : Below w.heap.size w (w.alloc (.cells #[.int .i64 n, .slice q cs.length cap] 28)) := (Below.refl _ _).alloc (Nat.le_refl _) _
  have c1 := somePlans_any n q cap cs _ (hr.below (Nat.le_refl _) hb0) hcap
  have HB := Lib.hid hb0
  rw [cheapest_some]
  rcases someS_cases n cs with ⟨h1, h2⟩ | ⟨m, p, ps, rfl, hchs, hp, h1⟩
  · rw [h1] at c1 ⊢
    have hb : ((someS n.toNat cs).2 != 0) = true := by simpa using h2
    generalize (someS n.toNat cs).2 = err at c1 hb h2
    unfold hillV at *
    have C1 := Lib.hid c1
    clear h1 h2 hr hb0 c1
    go_enter Try.func29, Try.ntmps29
    go_wp2_with (go_at_call 15; refine C1.out.mono ?_; rintro e w1 ⟨q1, cc1, vs1, rfl, hvl, hnil, hls, hb1⟩)
    go_ret2
    exact ⟨none, 0, rfl, .inl rfl, fun _ => rfl, by simp, HB.out.on hb1⟩
  · have hgood : GoodL cs (p :: ps) := by rw [← hp]; exact goodL_plans hchs
    have hlen : (p :: ps).length ≤ 100000 := by rw [← hp]; have := plansS_len hchs; omega
    rw [h1] at c1 ⊢
    have hch := fun W qp cp vs lo hb hls => cheapestOf_any m q cap cs lo qp cp vs p ps W hchs (hr.below (Nat.le_refl _) hb) hls hgood hlen
    unfold hillV at *
    have C1 := Lib.hid c1
    have HCH := Lib.hid hch
    obtain ⟨L, hL⟩ : ∃ L, (p :: ps).length = L := ⟨_, rfl⟩
    show Calls _ _ _ _ (RetI w (minG (fun p => (costS cs p).toNat) p ps) 0)
    generalize minG (fun p => (costS cs p).toNat) p ps = mp at HCH ⊢
    unfold RetLE at C1
    rw [hL] at C1 HCH
    clear h1 hr hb0 c1 hch hp hgood hlen hL
    go_enter Try.func29, Try.ntmps29
    go_wp2_with (first
      | (go_at_call 15; refine C1.out.mono ?_; rintro e w1 ⟨q1, cc1, vs1, rfl, hvl, hnil, hls, hb1⟩; have HVL := Lib.hid hvl; clear hvl; obtain ⟨hc1, hf1⟩ := bcell hb1; have hac1 : Below w.heap.size w w1 := HB.out.on hb1; have hz0 : w.heap.size < w1.heap.size := (by have := hb1.size; simp at this; omega))
      | (go_at_call 47; refine (HCH.out w1 q1 cc1 vs1 _ hac1 hls).mono ?_; rintro e w2 ⟨v2, rfl, ⟨q2, cc2, rfl, hr2, hq2, hqb2⟩, hb2⟩))
    go_ret2
    exact ⟨q2, cc2, rfl, hr2, hq2, fun a ha => ⟨by have := (hqb2 a ha).1; simp at this; omega, (hqb2 a ha).2⟩, hac1.on hb2⟩

set_option maxRecDepth 100000 in
theorem Least_any (n : Int) (q : Option Addr) (cap : Nat) (cs : List Ch) (w : World) (hr : RowV w q (flatT cs)) (hcap : cs.length ≤ cap) :
    Calls Try.prog 7 #[hillV n q cs.length cap] w (RetK w (leastOf n.toNat cs).1 (leastOf n.toNat cs).2) := by
  have hb0 : Below w.heap.size w (w.alloc (.cells #[.int .i64 n, .slice q cs.length cap] 28)) := (Below.refl _ _).alloc (Nat.le_refl _) _
  have c1 := somePlans_any n q cap cs _ (hr.below (Nat.le_refl _) hb0) hcap
  have HB := Lib.hid hb0
  rw [least_some]
  rcases someS_cases n cs with ⟨h1, h2⟩ | ⟨m, p, ps, rfl, hchs, hp, h1⟩
  · rw [h1] at c1 ⊢
    have hb : ((someS n.toNat cs).2 != 0) = true := by simpa using h2
    generalize (someS n.toNat cs).2 = err at c1 hb h2
    unfold hillV at *
    have C1 := Lib.hid c1
    clear h1 h2 hr hb0 c1
    go_enter Try.func7, Try.ntmps7
    go_wp2_with (go_at_call 15; refine C1.out.mono ?_; rintro e w1 ⟨q1, cc1, vs1, rfl, hvl, hnil, hls, hb1⟩)
    go_ret2
    exact ⟨rfl, HB.out.on hb1⟩
  · have hgood : GoodL cs (p :: ps) := by rw [← hp]; exact goodL_plans hchs
    have hlen : (p :: ps).length ≤ 100000 := by rw [← hp]; have := plansS_len hchs; omega
    rw [h1] at c1 ⊢
    have hch := fun W qp cp vs lo hb hls => leastOf_any m q cap cs lo qp cp vs p ps W hchs (hr.below (Nat.le_refl _) hb) hls hgood hlen
    unfold hillV at *
    have C1 := Lib.hid c1
    have HCH := Lib.hid hch
    obtain ⟨L, hL⟩ : ∃ L, (p :: ps).length = L := ⟨_, rfl⟩
    show Calls _ _ _ _ (RetK w (leastS cs (p :: ps)) 0)
    generalize leastS cs (p :: ps) = mp at HCH ⊢
    unfold RetLE at C1
    rw [hL] at C1 HCH
    clear h1 hr hb0 c1 hch hp hgood hlen hL
    go_enter Try.func7, Try.ntmps7
    go_wp2_with (first
      | (go_at_call 15; refine C1.out.mono ?_; rintro e w1 ⟨q1, cc1, vs1, rfl, hvl, hnil, hls, hb1⟩; have HVL := Lib.hid hvl; clear hvl; obtain ⟨hc1, hf1⟩ := bcell hb1; have hac1 : Below w.heap.size w w1 := HB.out.on hb1; have hz0 : w.heap.size < w1.heap.size := (by have := hb1.size; simp at this; omega))
      | (go_at_call 16; refine (HCH.out w1 q1 cc1 vs1 _ hac1 hls).mono ?_; rintro e w2 ⟨rfl, hb2⟩))
    go_ret2
    exact ⟨rfl, hac1.on hb2⟩
end Go.Proofs.Ytlkdkamhebggbaa.drn

/- Package drain, the walks: slices.Index and Contains at ints, divided. -/
namespace Go.Proofs.Ytlkdkamhebggbaa.drn
open Go.RowKit
set_option linter.unusedSimpArgs false
set_option linter.unusedVariables false

theorem indexI_any (x : Int) (q : Option Addr) (cap : Nat) (xs : List Int) (w : World) (hr : RowV w q (flatI xs)) (hl : xs.length ≤ 1000000) :
    Calls Try.prog 95 #[.slice q xs.length cap, .int .i64 x] w fun e w' => e = .returned (.int .i64 (firstIdx (fun y => x == y) xs)) ∧ w = w' := by
  go_enter Try.func95, Try.ntmps95
  go_wp2
  go_loop [8] (fun i => ∃ k : Nat, k ≤ xs.length ∧ i = .int .i64 k ∧ AllNo (fun y => x == y) xs k) (fun i => xs.length - (intOf i).toNat)
  case atStart => exact ⟨0, Nat.zero_le _, rfl, AllNo.zero _ _⟩
  case round =>
    obtain ⟨k, hk, rfl, hall⟩ := hrel
    by_cases hlt : k < xs.length
    · obtain ⟨b, off, rfl, hb, h1⟩ := rowI_at hr hlt (Nat.le_refl _) (Below.refl _ w)
      have hst := hall.step hlt 0
      have HS := Lib.hid hst
      clear hst
      generalize xs.getD k 0 = y at h1 HS
      go_wp2
      · have hy : (x == y) = true := by assumption
        go_ret
        exact ⟨ret_int (HS.out.2 hy).symm, rfl⟩
      · have hy : (x == y) = false := by assumption
        go_round
        case rel => exact ⟨k + 1, hlt, by go_num, HS.out.1 hy⟩
        case measure => simp [intOf]; omega
    · obtain rfl : k = xs.length := by omega
      go_wp2
      go_ret
      exact ⟨ret_int hall.all.symm, rfl⟩
theorem any_swap (xs : List Int) (x : Int) : (xs.any fun y => x == y) = xs.any (· == x) := by
  congr 1
  funext y
  by_cases h : x = y
  · subst h; simp
  · have h1 : (x == y) = false := beq_eq_false_iff_ne.2 h
    have h2 : (y == x) = false := beq_eq_false_iff_ne.2 fun e => h e.symm
    rw [h1, h2]
theorem containsI_any (x : Int) (q : Option Addr) (cap : Nat) (xs : List Int) (w : World) (hr : RowV w q (flatI xs)) (hl : xs.length ≤ 1000000) :
    Calls Try.prog 83 #[.slice q xs.length cap, .int .i64 x] w fun e w' => e = .returned (.bool (xs.any (· == x))) ∧ w = w' := by
  go_enter Try.func83, Try.ntmps83
  go_wp2_with (go_at_call 95; refine (indexI_any x q cap xs _ hr hl).mono ?_; rintro e w' ⟨rfl, rfl⟩)
  go_ret
  exact ⟨ret_bool (by rw [← any_swap]; exact firstIdx_any _ _), rfl⟩

/-- the values of the lists that are let by -/
def pick (f : List Int → Bool) : List Value → List (List Int) → List Value
  | v :: vs, l :: ls => if f l then v :: pick f vs ls else pick f vs ls
  | _, _ => []
theorem pick_in {R : Value → List Int → Prop} (f : List Int → Bool) : ∀ {vs : List Value} {ls : List (List Int)}, InL R vs ls → InL R (pick f vs ls) (ls.filter f)
  | [], [], _ => trivial
  | v :: vs, l :: ls, h => by
    have ih := pick_in (R := R) f h.2
    unfold pick
    by_cases hf : f l = true
    · rw [if_pos hf, List.filter_cons_of_pos hf]; exact ⟨h.1, ih⟩
    · rw [if_neg hf, List.filter_cons_of_neg hf]; exact ih
  | [], _ :: _, h => h.elim
  | _ :: _, [], h => h.elim
theorem pick_snoc (f : List Int → Bool) : ∀ (vs : List Value) (ls : List (List Int)) (k : Nat) (v : Value), vs[k]? = some v → k < ls.length →
    pick f (vs.take (k + 1)) (ls.take (k + 1)) = pick f (vs.take k) (ls.take k) ++ if f (ls.getD k []) then [v] else []
  | [], _, k, v, h, _ => by simp at h
  | _ :: _, [], k, v, _, h => by simp at h
  | u :: vs, l :: ls, 0, v, h, _ => by
    simp at h
    subst h
    simp [pick]
  | u :: vs, l :: ls, k + 1, v, h, hk => by
    have ih := pick_snoc f vs ls k v (by simpa using h) (by simpa using hk)
    have e : (l :: ls).getD (k + 1) [] = ls.getD k [] := rfl
    rw [e, List.take_succ_cons, List.take_succ_cons, List.take_succ_cons, List.take_succ_cons]
    show pick f (u :: vs.take (k + 1)) (l :: ls.take (k + 1)) = pick f (u :: vs.take k) (l :: ls.take k) ++ _
    unfold pick
    by_cases hf : f l = true
    · rw [if_pos hf, if_pos hf, ih]; rfl
    · rw [if_neg hf, if_neg hf, ih]
theorem pick_len (f : List Int → Bool) : ∀ (vs : List Value) (ls : List (List Int)), (pick f vs ls).length ≤ vs.length
  | v :: vs, l :: ls => by
    have ih := pick_len f vs ls
    unfold pick
    split <;> simp <;> omega
  | [], [] => Nat.le_refl _
  | [], _ :: _ => Nat.le_refl _
  | _ :: _, [] => Nat.zero_le _

/-- append(list, v): lists -/
theorem app_list (w : World) {ops : Array Oper} {rest : List Oper} {o : Oper} {a : Act} {Q : Exit → Act → World → Prop} (hgd : o.guard = none) (s x : Operand)
    (ho : o.op = .call { callee := .builtin .append, args := #[s, x], argTypes := #[44, 44] }) (base : Nat) (v : Value) (vs : List Value) (q : Option Addr) (n c : Nat) (hs : a.eval s = v)
    (hown : w.ownsRow base 30 1 v vs.length vs) (B cc : Nat) (hx : a.eval x = .slice (some ⟨B, 0, none⟩) 1 cc)
    (hc1 : w.cell? ⟨B, 0, none⟩ = some (.slice q n c)) (hl : vs.length ≤ 1000000) (hbase : base ≤ w.heap.size)
    (h : ∀ v' w', w'.ownsRow base 30 1 v' (vs ++ [Value.slice q n c]).length (vs ++ [Value.slice q n c]) → w.grownBy w' v.ownBlock → (v'.ownBlock = v.ownBlock ∨ v'.ownBlock = some w.heap.size) → wpList Try.prog ops Q rest (a.put o.dst v') w') :
    wpList Try.prog ops Q (o :: rest) a w := by
  refine app_one w hgd s x 44 ho base 30 _ 1 24 Try.underlying44 infoL rfl (by decide) (by decide) v vs.length vs hs hown B cc hx [.slice q n c] rfl ?_ ?_ hl hbase ?_
  · intro j u hj
    match j, hj with
    | 0, hj => simp at hj; subst hj; exact hc1
  · intro u hu; simp at hu; subst hu; rfl
  · intro v' w' h1 h2 h3
    refine h v' w' ?_ h2 h3
    rw [List.length_append]
    exact h1

/-- two lists of lists, the new rows in new memory -/
def RetLL (w : World) (lo : Nat) (xs ys : List (List Int)) (e : Ending) (w' : World) : Prop :=
  ∃ q1 c1 vs1 q2 c2 vs2, e = .returned (.tuple #[.slice q1 xs.length c1, .slice q2 ys.length c2]) ∧ ListsAt w' lo q1 vs1 xs ∧ ListsAt w' lo q2 vs2 ys ∧ Below w.heap.size w w'

set_option maxRecDepth 100000 in
set_option maxHeartbeats 1000000 in
theorem divided_any (x : Int) (lo : Nat) (q : Option Addr) (c : Nat) (vs : List Value) (ls : List (List Int)) (w : World) (hlo : lo ≤ w.heap.size) (hls : ListsAt w lo q vs ls) (hl : ls.length ≤ 100000) (hg : ∀ l ∈ ls, l.length ≤ 1000) :
    Calls Try.prog 64 #[.slice q ls.length c, .int .i64 x] w (RetLL w lo (hav x ls) (oth x ls)) := by
  have hvl := hls.2.1.len
  have hpl1 := fun k => pick_len (fun p => p.any (· == x)) (vs.take k) (ls.take k)
  have hpl2 := fun k => pick_len (fun p => !p.any (· == x)) (vs.take k) (ls.take k)
  have HPL1 := Lib.hid hpl1
  have HPL2 := Lib.hid hpl2
  have HLS := Lib.hid hls
  have HVL := Lib.hid hvl
  have HG := Lib.hid hg
  clear hpl1 hpl2 hvl hls hg
  go_enter Try.func64, Try.ntmps64
  go_wp2
  go_loopw [4, 5, 10] (fun h o i wr => ∃ k : Nat, k ≤ ls.length ∧ i = .int .i64 k ∧
      wr.ownsRow w.heap.size 30 1 h (pick (fun p => p.any (· == x)) (vs.take k) (ls.take k)).length (pick (fun p => p.any (· == x)) (vs.take k) (ls.take k)) ∧
      wr.ownsRow w.heap.size 30 1 o (pick (fun p => !p.any (· == x)) (vs.take k) (ls.take k)).length (pick (fun p => !p.any (· == x)) (vs.take k) (ls.take k)) ∧
      (h.ownBlock = none ∨ h.ownBlock ≠ o.ownBlock) ∧ Below w.heap.size w wr) (fun _ _ i _ => ls.length - (intOf i).toNat)
  case atStart => exact ⟨0, Nat.zero_le _, rfl, World.ownsRow_nil _ _ _ _, World.ownsRow_nil _ _ _ _, .inl rfl, Below.refl _ _⟩
  case round =>
    obtain ⟨k, hk, rfl, ho1, ho2, hne, hbel⟩ := hrel
    by_cases hlt : k < ls.length
    · obtain ⟨v, hv, hlv⟩ := InL.get k HLS.out.2.1 hlt
      obtain ⟨b, off, rfl, hb, hcell⟩ := HLS.out.1.here (k := k) (by rw [HVL.out]; exact hlt)
      have h1 := (hbel.cell (p := ⟨b, off + k, none⟩) hb).trans (hcell k v hv)
      have hp1 := pick_snoc (fun p => p.any (· == x)) vs ls k v hv hlt
      have hp2 := pick_snoc (fun p => !p.any (· == x)) vs ls k v hv hlt
      have hb1 : (pick (fun p => p.any (· == x)) (vs.take k) (ls.take k)).length ≤ 100000 := Nat.le_trans (HPL1.out k) (by rw [List.length_take]; have := HVL.out; omega)
      have hb2 : (pick (fun p => !p.any (· == x)) (vs.take k) (ls.take k)).length ≤ 100000 := Nat.le_trans (HPL2.out k) (by rw [List.length_take]; have := HVL.out; omega)
      have hgl := HG.out _ (getD_mem ls k [] hlt)
      generalize ls.getD k [] = l at hlv hp1 hp2 hgl
      generalize pick (fun p => p.any (· == x)) (vs.take k) (ls.take k) = A at ho1 hp1 hb1
      generalize pick (fun p => !p.any (· == x)) (vs.take k) (ls.take k) = Bb at ho2 hp2 hb2
      obtain ⟨ql, cl, rfl, hrl, _, _⟩ := hlv
      have hlk : (k : Int) < (ls.length : Int) := by omega
      have hrlw := hrl.below (Nat.le_refl _) hbel
      obtain ⟨y, hy⟩ : ∃ y, l.any (· == x) = y := ⟨_, rfl⟩
      have hco := fun W hb => containsI_any x ql cl l W (hrlw.below (Nat.le_refl _) hb) (by omega)
      simp only [hy] at hco hp1 hp2
      have HCO := Lib.hid hco
      have HP1 := Lib.hid hp1
      have HP2 := Lib.hid hp2
      have HO1 := Lib.hid ho1
      have HO2 := Lib.hid ho2
      have HNE := Lib.hid hne
      have hsz := hbel.size
      clear hco hp1 hp2 ho1 ho2 hne hy hrlw hrl hv hcell
      cases y with
      | true =>
        go_wp2_with (first
          | (go_at_call 83; refine (HCO.out wr (Below.refl _ _)).mono ?_; rintro e w1 ⟨rfl, rfl⟩)
          | (at_builtin; refine app_list _ rfl (.tmp 17) (.tmp 19) rfl w.heap.size u4 A ql l.length cl rfl (HO1.out.alloc _) wr.heap.size 1 rfl (by simp) (by omega) (by simp; omega) ?_; intro v2 w2 hown2 hgr2 hbk2))
        have hb2w : Below w.heap.size w w2 := hbel.trans (((Below.refl _ _).alloc hbel.size _).trans (grown_below (HO1.out.alloc _) (by simp; omega) hgr2))
        have hother : w2.ownsRow w.heap.size 30 1 u5 Bb.length Bb := (HO2.out.alloc _).kept hgr2 (by
          rcases HNE.out with h | h
          · rw [h]; cases hob : u5.ownBlock <;> simp
          · exact .inr fun e => h e.symm)
        have hne2 : v2.ownBlock = none ∨ v2.ownBlock ≠ u5.ownBlock := by
          right
          intro e
          rcases hbk2 with h | h
          · rcases HNE.out with h2 | h2
            · have hz : v2.ownBlock ≠ none := by
                obtain ⟨_, ⟨hv, hn⟩ | ⟨g, cap, cur, hv, _⟩⟩ := hown2
                · simp at hn
                · rw [hv]; simp [Value.ownBlock]
              rw [h, h2] at hz
              exact hz rfl
            · exact h2 (by rw [← h]; exact e)
          · have h3 := (HO2.out.lt _ (by rw [← e, h])).2
            simp at h3
            omega
        clear hgr2 hbk2
        go_roundw
        case rel => exact ⟨k + 1, hlt, by go_num, by rw [HP1.out]; exact hown2, by rw [HP2.out]; simpa using hother, hne2, hb2w⟩
        case measure => simp [intOf]; omega
      | false =>
        go_wp2_with (first
          | (go_at_call 83; refine (HCO.out wr (Below.refl _ _)).mono ?_; rintro e w1 ⟨rfl, rfl⟩)
          | (at_builtin; refine app_list _ rfl (.tmp 21) (.tmp 23) rfl w.heap.size u5 Bb ql l.length cl rfl (HO2.out.alloc _) wr.heap.size 1 rfl (by simp) (by omega) (by simp; omega) ?_; intro v2 w2 hown2 hgr2 hbk2))
        have hb2w : Below w.heap.size w w2 := hbel.trans (((Below.refl _ _).alloc hbel.size _).trans (grown_below (HO2.out.alloc _) (by simp; omega) hgr2))
        have hother : w2.ownsRow w.heap.size 30 1 u4 A.length A := (HO1.out.alloc _).kept hgr2 (by
          rcases HNE.out with h | h
          · exact .inl h
          · exact .inr h)
        have hne2 : u4.ownBlock = none ∨ u4.ownBlock ≠ v2.ownBlock := by
          rcases HNE.out with h | h
          · exact .inl h
          · right
            intro e
            rcases hbk2 with h2 | h2
            · exact h (by rw [e, h2])
            · have h3 := (HO1.out.lt _ (by rw [e, h2])).2
              simp at h3
              omega
        clear hgr2 hbk2
        go_roundw
        case rel => exact ⟨k + 1, hlt, by go_num, by rw [HP1.out]; simpa using hother, by rw [HP2.out]; exact hown2, hne2, hb2w⟩
        case measure => simp [intOf]; omega
    · obtain rfl : k = ls.length := by omega
      have hvt : vs.take ls.length = vs := by rw [← HVL.out, List.take_length]
      rw [hvt, List.take_length] at ho1 ho2
      have hin1 := pick_in (fun p => p.any (· == x)) (InL.mono (fun v l (h : ListAt w lo v l) => h.below (Nat.le_refl _) hbel) HLS.out.2.1)
      have hin2 := pick_in (fun p => !p.any (· == x)) (InL.mono (fun v l (h : ListAt w lo v l) => h.below (Nat.le_refl _) hbel) HLS.out.2.1)
      obtain ⟨q1, c1, rfl, hr1, _, hq1⟩ := rowV_of_owns ho1 (by intro h; exact List.length_eq_zero_iff.1 h)
      obtain ⟨q2, c2, rfl, hr2, _, hq2⟩ := rowV_of_owns ho2 (by intro h; exact List.length_eq_zero_iff.1 h)
      have hl1 := hin1.len
      have hl2 := hin2.len
      rw [hl1, hl2]
      have HI1 := Lib.hid hin1
      have HI2 := Lib.hid hin2
      have HR1 := Lib.hid hr1
      have HR2 := Lib.hid hr2
      have HQ1 := Lib.hid hq1
      have HQ2 := Lib.hid hq2
      clear hl1 hl2 hin1 hin2 hr1 hr2 hq1 hq2 ho1 ho2 hne hvt
      go_wp2
      go_ret2
      exact ⟨q1, c1, _, q2, c2, _, rfl, ⟨HR1.out, HI1.out, fun a ha => ⟨Nat.le_trans hlo (HQ1.out a ha).1, (HQ1.out a ha).2⟩⟩, ⟨HR2.out, HI2.out, fun a ha => ⟨Nat.le_trans hlo (HQ2.out a ha).1, (HQ2.out a ha).2⟩⟩, hbel⟩
end Go.Proofs.Ytlkdkamhebggbaa.drn

/- Package drain, the walks: slices.ContainsFunc at ints, apartFrom. -/
namespace Go.Proofs.Ytlkdkamhebggbaa.drn
open Go.RowKit
set_option linter.unusedSimpArgs false
set_option linter.unusedVariables false

/-- a list in a variable that a closure has captured -/
def ListIn (w : World) (B : Nat) (l : List Int) : Prop := ∃ q c, B < w.heap.size ∧ w.cell? ⟨B, 0, none⟩ = some (.slice q l.length c) ∧ RowV w q (flatI l)
theorem ListIn.below {w w' : World} {B : Nat} {l : List Int} (h : ListIn w B l) {N : Nat} (hN : w.heap.size ≤ N) (hb : Below N w w') : ListIn w' B l := by
  obtain ⟨q, c, h1, h2, h3⟩ := h
  exact ⟨q, c, Nat.lt_of_lt_of_le h1 hb.size, (hb.cell (p := ⟨B, 0, none⟩) (Nat.lt_of_lt_of_le h1 hN)).trans h2, h3.below hN hb⟩
theorem apart1_any (B : Nat) (p : List Int) (c : Int) (w : World) (hB : ListIn w B p) (hl : p.length ≤ 1000) :
    Calls Try.prog 82 #[.int .i64 c, .pointer (some ⟨B, 0, none⟩)] w fun e w' => e = .returned (.bool (p.any (· == c))) ∧ w = w' := by
  obtain ⟨q, k, h1, h2, h3⟩ := hB
  go_enter Try.func82, Try.ntmps82
  go_wp2_with (go_at_call 83; refine (containsI_any c q k p w h3 (by omega)).mono ?_; rintro e w1 ⟨rfl, rfl⟩)
  go_ret
  exact ⟨rfl, rfl⟩
theorem indexF_any (B : Nat) (p : List Int) (q : Option Addr) (cap : Nat) (xs : List Int) (w : World) (hB : ListIn w B p) (hlp : p.length ≤ 1000) (hr : RowV w q (flatI xs)) (hl : xs.length ≤ 1000000) :
    Calls Try.prog 94 #[.slice q xs.length cap, .func (.func 82) #[] #[.pointer (some ⟨B, 0, none⟩)]] w fun e w' => e = .returned (.int .i64 (firstIdx (fun c => p.any (· == c)) xs)) ∧ w = w' := by
  have hap := fun c => apart1_any B p c w hB hlp
  have HAP := Lib.hid hap
  clear hap hB
  go_enter Try.func94, Try.ntmps94
  go_wp2
  go_loop [8] (fun i => ∃ k : Nat, k ≤ xs.length ∧ i = .int .i64 k ∧ AllNo (fun c => p.any (· == c)) xs k) (fun i => xs.length - (intOf i).toNat)
  case atStart => exact ⟨0, Nat.zero_le _, rfl, AllNo.zero _ _⟩
  case round =>
    obtain ⟨k, hk, rfl, hall⟩ := hrel
    by_cases hlt : k < xs.length
    · obtain ⟨b, off, rfl, hb, h1⟩ := rowI_at hr hlt (Nat.le_refl _) (Below.refl _ w)
      have hst := hall.step hlt 0
      generalize xs.getD k 0 = y at h1 hst
      obtain ⟨z, hz⟩ : ∃ z, p.any (· == y) = z := ⟨_, rfl⟩
      have hcc := HAP.out y
      rw [hz] at hcc
      have HS := Lib.hid hst
      have HCC := Lib.hid hcc
      have HZ := Lib.hid hz
      clear hst hcc hz
      cases z with
      | true =>
        go_wp2_with (go_at_call 82; refine HCC.out.mono ?_; rintro e w' ⟨rfl, rfl⟩)
        go_ret
        exact ⟨ret_int (HS.out.2 HZ.out).symm, rfl⟩
      | false =>
        go_wp2_with (go_at_call 82; refine HCC.out.mono ?_; rintro e w' ⟨rfl, rfl⟩)
        go_round
        case rel => exact ⟨k + 1, hlt, by go_num, HS.out.1 HZ.out⟩
        case measure => simp [intOf]; omega
    · obtain rfl : k = xs.length := by omega
      go_wp2
      go_ret
      exact ⟨ret_int hall.all.symm, rfl⟩
theorem containsF_any (B : Nat) (p : List Int) (q : Option Addr) (cap : Nat) (xs : List Int) (w : World) (hB : ListIn w B p) (hlp : p.length ≤ 1000) (hr : RowV w q (flatI xs)) (hl : xs.length ≤ 1000000) :
    Calls Try.prog 81 #[.slice q xs.length cap, .func (.func 82) #[] #[.pointer (some ⟨B, 0, none⟩)]] w fun e w' => e = .returned (.bool (xs.any fun c => p.any (· == c))) ∧ w = w' := by
  go_enter Try.func81, Try.ntmps81
  go_wp2_with (go_at_call 94; refine (indexF_any B p q cap xs _ hB hlp hr hl).mono ?_; rintro e w' ⟨rfl, rfl⟩)
  go_ret
  exact ⟨ret_bool (firstIdx_any _ _), rfl⟩

set_option maxRecDepth 100000 in
set_option maxHeartbeats 1000000 in
theorem apartFrom_any (pv : Value) (p : List Int) (lo : Nat) (q : Option Addr) (c : Nat) (vs : List Value) (ls : List (List Int)) (w : World) (hlo : lo ≤ w.heap.size) (hp : ListAt w lo pv p) (hlp : p.length ≤ 1000) (hls : ListsAt w lo q vs ls) (hl : ls.length ≤ 100000) (hg : ∀ l ∈ ls, l.length ≤ 1000) :
    Calls Try.prog 52 #[pv, .slice q ls.length c] w fun e w' => ∃ q' c' vs', e = .returned (.slice q' (apartFrom p ls).length c') ∧ ListsAt w' lo q' vs' (apartFrom p ls) ∧ Below w.heap.size w w' ∧ (apartFrom p ls).length ≤ c' := by
  obtain ⟨qp, cp, rfl, hrp, _, _⟩ := hp
  have hb0 : Below w.heap.size w (w.alloc (.cells #[.slice qp p.length cp] 30)) := (Below.refl _ _).alloc (Nat.le_refl _) _
  have hin : ListIn (w.alloc (.cells #[.slice qp p.length cp] 30)) w.heap.size p := ⟨qp, cp, by simp, by simp, hrp.below (Nat.le_refl _) hb0⟩
  have hls0 := hls.below (Nat.le_refl _) hb0
  have hvl := hls.2.1.len
  have hpl := fun k => pick_len (fun q => !q.any fun c => p.any (· == c)) (vs.take k) (ls.take k)
  have HPL := Lib.hid hpl
  have HB := Lib.hid hb0
  have HVL := Lib.hid hvl
  have HG := Lib.hid hg
  have HLS := Lib.hid hls0
  have HIN := Lib.hid hin
  clear hpl hb0 hvl hg hls hls0 hin hrp
  go_enter Try.func52, Try.ntmps52
  go_wp2
  obtain ⟨W0, hW0⟩ : ∃ W0, w.alloc (.cells #[.slice qp p.length cp] 30) = W0 := ⟨_, rfl⟩
  have hz0 : w.heap.size < W0.heap.size := by rw [← hW0]; simp
  rw [hW0] at HB HLS HIN ⊢
  clear hW0
  go_loopw [5, 10] (fun h i wr => ∃ k : Nat, k ≤ ls.length ∧ i = .int .i64 k ∧
      wr.ownsRow W0.heap.size 30 1 h (pick (fun q => !q.any fun c => p.any (· == c)) (vs.take k) (ls.take k)).length (pick (fun q => !q.any fun c => p.any (· == c)) (vs.take k) (ls.take k)) ∧ Below W0.heap.size W0 wr) (fun _ i _ => ls.length - (intOf i).toNat)
  case atStart => exact ⟨0, Nat.zero_le _, rfl, World.ownsRow_nil _ _ _ _, Below.refl _ _⟩
  case round =>
    obtain ⟨k, hk, rfl, ho1, hbel⟩ := hrel
    by_cases hlt : k < ls.length
    · obtain ⟨v, hv, hlv⟩ := InL.get k HLS.out.2.1 hlt
      obtain ⟨b, off, rfl, hb, hcell⟩ := HLS.out.1.here (k := k) (by rw [HVL.out]; exact hlt)
      have h1 := (hbel.cell (p := ⟨b, off + k, none⟩) hb).trans (hcell k v hv)
      have hp1 := pick_snoc (fun q => !q.any fun c => p.any (· == c)) vs ls k v hv hlt
      have hb1 : (pick (fun q => !q.any fun c => p.any (· == c)) (vs.take k) (ls.take k)).length ≤ 100000 := Nat.le_trans (HPL.out k) (by rw [List.length_take]; have := HVL.out; omega)
      have hgl := HG.out _ (getD_mem ls k [] hlt)
      generalize ls.getD k [] = l at hlv hp1 hgl
      generalize pick (fun q => !q.any fun c => p.any (· == c)) (vs.take k) (ls.take k) = A at ho1 hp1 hb1
      obtain ⟨ql, cl, rfl, hrl, _, _⟩ := hlv
      have hlk : (k : Int) < (ls.length : Int) := by omega
      have hrlw := hrl.below (Nat.le_refl _) hbel
      have hinw := HIN.out.below (Nat.le_refl _) hbel
      have hco := containsF_any w.heap.size p ql cl l wr hinw hlp hrlw (by omega)
      obtain ⟨y, hy⟩ : ∃ y, (l.any fun c => p.any (· == c)) = y := ⟨_, rfl⟩
      rw [hy] at hco
      simp only [hy] at hp1
      have HCO := Lib.hid hco
      have HP1 := Lib.hid hp1
      have HO1 := Lib.hid ho1
      have hsz := hbel.size
      clear hco hp1 ho1 hy hrlw hrl hv hcell hinw
      cases y with
      | true =>
        go_wp2_with (go_at_call 81; refine HCO.out.mono ?_; rintro e w1 ⟨rfl, rfl⟩)
        go_roundw
        case rel => exact ⟨k + 1, hlt, by go_num, by rw [HP1.out]; simpa using HO1.out, hbel⟩
        case measure => simp [intOf]; omega
      | false =>
        go_wp2_with (first
          | (go_at_call 81; refine HCO.out.mono ?_; rintro e w1 ⟨rfl, rfl⟩)
          | (at_builtin; refine app_list _ rfl (.tmp 18) (.tmp 20) rfl W0.heap.size u5 A ql l.length cl rfl (HO1.out.alloc _) wr.heap.size 1 rfl (by simp) (by omega) (by simp; omega) ?_; intro v2 w2 hown2 hgr2 hbk2))
        have hb2w : Below W0.heap.size W0 w2 := hbel.trans (((Below.refl _ _).alloc hbel.size _).trans (grown_below (HO1.out.alloc _) (by simp; omega) hgr2))
        clear hgr2 hbk2
        go_roundw
        case rel => exact ⟨k + 1, hlt, by go_num, by rw [HP1.out]; exact hown2, hb2w⟩
        case measure => simp [intOf]; omega
    · obtain rfl : k = ls.length := by omega
      have hvt : vs.take ls.length = vs := by rw [← HVL.out, List.take_length]
      rw [hvt, List.take_length] at ho1
      have hin1 := pick_in (fun q => !q.any fun c => p.any (· == c)) (InL.mono (fun v l (h : ListAt W0 lo v l) => h.below (Nat.le_refl _) hbel) HLS.out.2.1)
      obtain ⟨q1, c1, rfl, hr1, _, hq1⟩ := rowV_of_owns ho1 (by intro h; exact List.length_eq_zero_iff.1 h)
      have hcap1 := own_cap ho1
      have hl1 := hin1.len
      rw [hl1] at hcap1 ⊢
      have HI1 := Lib.hid hin1
      have HR1 := Lib.hid hr1
      have HQ1 := Lib.hid hq1
      have HC1 := Lib.hid hcap1
      clear hl1 hin1 hr1 hq1 ho1 hvt hcap1
      go_wp2
      go_ret
      exact ⟨q1, c1, _, rfl, ⟨HR1.out, HI1.out, fun a ha => ⟨by have := (HQ1.out a ha).1; omega, (HQ1.out a ha).2⟩⟩, HB.out.on hbel, HC1.out⟩
end Go.Proofs.Ytlkdkamhebggbaa.drn

/- Package drain, the walks: firstApart, Apart. -/
namespace Go.Proofs.Ytlkdkamhebggbaa.drn
open Go.RowKit
set_option linter.unusedSimpArgs false
set_option linter.unusedVariables false

theorem InL.drop {R : Value → List Int → Prop} : ∀ {vs : List Value} {ls : List (List Int)} (k : Nat), InL R vs ls → InL R (vs.drop k) (ls.drop k)
  | _, _, 0, h => h
  | [], [], k + 1, h => h
  | _ :: _, _ :: _, k + 1, h => by simpa using InL.drop k h.2
  | [], _ :: _, _ + 1, h => h.elim
  | _ :: _, [], _ + 1, h => h.elim
theorem ListsAt.drop {w : World} {lo b off : Nat} {vs : List Value} {ls : List (List Int)} (h : ListsAt w lo (some ⟨b, off, none⟩) vs ls) (k : Nat) : ListsAt w lo (some ⟨b, off + k, none⟩) (vs.drop k) (ls.drop k) := by
  obtain ⟨h1, h2, h3⟩ := h
  refine ⟨?_, h2.drop k, fun a ha => by injection ha with ha; subst ha; exact h3 ⟨b, off, none⟩ rfl⟩
  rcases h1 with rfl | ⟨b', off', e, hz, hc⟩
  · exact .inl (by simp)
  · injection e with e
    injection e with e1 e2
    subst e1 e2
    refine .inr ⟨b, off + k, rfl, hz, fun i v hi => ?_⟩
    rw [Nat.add_assoc]
    exact hc (k + i) v (by rw [← hi, List.getElem?_drop])
theorem neNilL (w : World) (a : Option Addr) (n c : Nat) : (binOp .neq 44 (.slice a n c) (.slice none 0 0)).run Try.prog w = .ok (.bool (!a.isNone)) w := run_neq_slice_nil_any w _ _ a n c 0 0 Try.underlying44
theorem eqNilL (w : World) (a : Option Addr) (n c : Nat) : (binOp .eql 44 (.slice a n c) (.slice none 0 0)).run Try.prog w = .ok (.bool a.isNone) w := Lib.run_eql_slice_nil w _ _ a n c 0 0 Try.underlying44
attribute [local go_sem] neNilL eqNilL

/-- the first plans that are apart, or nil -/
def FirstA (w : World) (lo k : Nat) (ls : List (List Int)) (e : Ending) (w' : World) : Prop :=
  ∃ q' c' vs', e = .returned (.slice q' ((apartS k ls).getD []).length c') ∧ ListsAt w' lo q' vs' ((apartS k ls).getD []) ∧ q'.isNone = (apartS k ls).isNone ∧ (q' = none → c' = 0) ∧ Below w.heap.size w w'
theorem apart_at (k : Nat) (ls : List (List Int)) (i : Nat) (h : i < ls.length) : apartS (k + 1) (ls.drop i) = match apartS k (apartFrom (ls.getD i []) (ls.drop (i + 1))) with
    | some l => some (ls.getD i [] :: l)
    | none => apartS (k + 1) (ls.drop (i + 1)) := by
  rw [List.drop_eq_getElem_cons h, ← getD_eq ls i [] h, apartS_cons]
  rfl

set_option maxRecDepth 100000 in
set_option maxHeartbeats 1000000 in
theorem firstApart_any : ∀ (k : Nat) (lo : Nat) (q : Option Addr) (c : Nat) (vs : List Value) (ls : List (List Int)) (w : World), k ≤ 100000 → lo ≤ w.heap.size → ListsAt w lo q vs ls → ls.length ≤ c → ls.length ≤ 100000 → (∀ l ∈ ls, l.length ≤ 1000) →
    Calls Try.prog 19 #[.slice q ls.length c, .int .i64 ((k + 1 : Nat) : Int)] w (FirstA w lo k ls) := by
  intro k
  induction k with
  | zero =>
    intro lo q c vs ls w hk hlo hls hc hl hg
    have hvl := hls.2.1.len
    have HLS := Lib.hid hls
    have HVL := Lib.hid hvl
    clear hls hvl hg hk
    go_enter Try.func19, Try.ntmps19
    go_wp2
    go_loop [10] (fun i => i = .int .i64 0) (fun _ => 0)
    case atStart => rfl
    case round =>
      subst hrel
      cases ls with
      | nil =>
        go_wp2
        go_ret
        exact ⟨none, 0, [], rfl, listsAt_nil _ _, rfl, fun _ => rfl, Below.refl _ _⟩
      | cons p r =>
        obtain ⟨v, hv, hlv⟩ := InL.get 0 HLS.out.2.1 (by simp)
        obtain ⟨b, off, rfl, hb, hcell⟩ := HLS.out.1.here (k := 0) (by rw [HVL.out]; simp)
        have h1 := hcell 0 v hv
        rw [Nat.add_zero] at h1
        obtain ⟨ql, cl, rfl, hrl, hnl, hbl⟩ := hlv
        have hpos : (0 : Int) < ((p :: r).length : Int) := by rw [List.length_cons]; omega
        obtain ⟨L, hL⟩ : ∃ L, (p :: r).length = L := ⟨_, rfl⟩
        rw [hL] at hpos ⊢
        clear hL hl hc hv hcell HVL HLS
        have hbA : Below w.heap.size w (w.alloc (.cells #[.slice ql ((p :: r).getD 0 []).length cl] 30)) := (Below.refl _ _).alloc (Nat.le_refl _) _
        go_wp2
        go_ret
        refine ⟨some ⟨w.heap.size, 0, none⟩, 1, [.slice ql p.length cl], rfl, ⟨.inr ⟨w.heap.size, 0, rfl, by simp, fun i v hi => ?_⟩, ⟨⟨ql, cl, rfl, hrl.below (Nat.le_refl _) hbA, hnl, fun a ha => ⟨(hbl a ha).1, Nat.lt_of_lt_of_le (hbl a ha).2 hbA.size⟩⟩, trivial⟩, fun a ha => ?_⟩, rfl, by simp, hbA⟩
        · obtain rfl : i = 0 := by
            have := (List.getElem?_eq_some_iff.1 hi).1
            simpa using this
          simp at hi
          subst hi
          simp
        · injection ha with ha
          subst ha
          exact ⟨hlo, by simp⟩
  | succ k ih =>
    intro lo q c vs ls w hk hlo hls hc hl hg
    have hvl := hls.2.1.len
    have HLS := Lib.hid hls
    have HVL := Lib.hid hvl
    have HG := Lib.hid hg
    have HIH := Lib.hid ih
    have hkne : (((k + 1 + 1 : Nat) : Int) == 1) = false := beq_eq_false_iff_ne.2 (by omega)
    have hkw : IntKind.i64.wrap (((k + 1 + 1 : Nat) : Int) - 1) = ((k + 1 : Nat) : Int) := by rw [IntWalk.i64_in _ ⟨by omega, by omega⟩]; omega
    clear hls hvl hg ih
    go_enter Try.func19, Try.ntmps19
    go_wp2
    go_loopw [10] (fun i wr => ∃ j : Nat, j ≤ ls.length ∧ i = .int .i64 j ∧ apartS (k + 1) (ls.drop j) = apartS (k + 1) ls ∧ Below w.heap.size w wr) (fun i _ => ls.length - (intOf i).toNat)
    case atStart => exact ⟨0, Nat.zero_le _, rfl, rfl, Below.refl _ _⟩
    case round =>
      obtain ⟨j, hj, rfl, hrest, hbel⟩ := hrel
      by_cases hlt : j < ls.length
      · obtain ⟨v, hv, hlv⟩ := InL.get j HLS.out.2.1 hlt
        obtain ⟨b, off, rfl, hb, hcell⟩ := HLS.out.1.here (k := j) (by rw [HVL.out]; exact hlt)
        have h1 := (hbel.cell (p := ⟨b, off + j, none⟩) hb).trans (hcell j v hv)
        have hst := apart_at k ls j hlt
        rw [hrest] at hst
        have hgl := HG.out _ (getD_mem ls j [] hlt)
        generalize ls.getD j [] = p at hlv hst hgl
        obtain ⟨ql, cl, rfl, hrl, hnl, hbl⟩ := hlv
        have hpA : ListAt wr lo (.slice ql p.length cl) p := ⟨ql, cl, rfl, hrl.below (Nat.le_refl _) hbel, hnl, fun a ha => ⟨(hbl a ha).1, Nat.lt_of_lt_of_le (hbl a ha).2 hbel.size⟩⟩
        have hdr := (HLS.out.below (Nat.le_refl _) hbel).drop (j + 1)
        have hwj : IntKind.i64.wrap ((j : Int) + 1) = ((j + 1 : Nat) : Int) := by rw [IntWalk.i64_in _ ⟨by omega, by omega⟩]; omega
        have hlk : (j : Int) < (ls.length : Int) := by omega
        have hj1 : ((j + 1 : Nat) : Int) ≤ (ls.length : Int) := by omega
        have hsz := hbel.size
        by_cases hjc : j + 1 = c
        · have hap := apartFrom_any (.slice ql p.length cl) p lo (some ⟨b, off, none⟩) 0 (vs.drop (j + 1)) (ls.drop (j + 1)) wr (by omega) hpA hgl ⟨.inl (List.drop_eq_nil_of_le (by rw [HVL.out]; omega)), hdr.2.1, fun a ha => by injection ha with ha; subst ha; exact (HLS.out.below (Nat.le_refl _) hbel).2.2 ⟨b, off, none⟩ rfl⟩ (by rw [List.length_drop]; omega) (fun l hl => HG.out l (List.mem_of_mem_drop hl))
          rw [List.length_drop, show ls.length - (j + 1) = 0 by omega] at hap
          have HAP := Lib.hid hap
          have HST := Lib.hid hst
          have HRE := Lib.hid hrest
          have HPA := Lib.hid hpA
          clear hap hst hrest hv hcell hdr hpA
          subst hjc
          go_wp2_with (go_at_call 52; refine HAP.out.mono ?_; rintro e w2 ⟨q2, c2, vs2, rfl, hls2, hb2, hcap2⟩)
          go_at_call 19
          have hih := HIH.out lo q2 c2 vs2 (apartFrom p (ls.drop (j + 1))) w2 (by omega) (Nat.le_trans hlo (hbel.on hb2).size) hls2 hcap2 (Nat.le_trans (apartFrom_le _ _) (by rw [List.length_drop]; omega)) (fun l hl => HG.out l (List.mem_of_mem_drop (List.mem_filter.1 hl).1))
          rw [show ((k + 1 : Nat) : Int) = (k : Int) + 1 by omega] at hih
          (with_reducible refine hih.mono ?_)
          clear hih
          rintro e w3 ⟨q3, c3, vs3, rfl, hls3, hnone3, hc3, hb3⟩
          dsimp only
          have hbw3 : Below w.heap.size w w3 := (hbel.on hb2).on hb3
          cases hres : apartS k (apartFrom p (ls.drop (j + 1))) with
          | none =>
            rw [hres] at hnone3 hls3
            have hq3 : q3 = none := by cases q3 with
              | none => rfl
              | some a => cases hnone3
            subst hq3
            have hst2 : apartS (k + 1) ls = apartS (k + 1) (ls.drop (j + 1)) := by rw [HST.out, hres]
            have HST2 := Lib.hid hst2
            clear hst2 hres hnone3 hls3 hls2
            go_wp2
            go_roundw
            case rel => exact ⟨_, _, _, _, _, ⟨j + 1, hlt, by go_num, HST2.out.symm⟩, rfl, rfl, rfl, rfl, rfl⟩
            case measure => simp [intOf]; omega
          | some l =>
            rw [hres] at hnone3 hls3
            obtain ⟨a3, ha3⟩ : ∃ a, q3 = some a := by cases q3 with
              | none => cases hnone3
              | some a => exact ⟨a, rfl⟩
            subst ha3
            have hst2 : apartS (k + 1) ls = some (p :: l) := by rw [HST.out, hres]
            obtain ⟨hl1, _⟩ := apartS_len k _ l hres
            have hlk2 : l.length ≤ 100001 := by omega
            have hl0 : 0 < l.length := by omega
            have HST2 := Lib.hid hst2
            have HLS3 := Lib.hid hls3
            have hvl3 := hls3.2.1.len
            have HVL3 := Lib.hid hvl3
            clear hst2 hres hnone3 hls3 hls2 hvl3 hl1
            rw [Option.getD_some] at HLS3 HVL3 ⊢
            obtain ⟨i0, hi, hz0, hz1, hz2⟩ := info_parts infoL
            have HI := Lib.hid hi
            have HZ0 := Lib.hid hz0
            have HZ1 := Lib.hid hz1
            have HZ2 := Lib.hid hz2
            have hlit : (w3.alloc (.cells #[.slice ql p.length cl] 30)).ownsRow w3.heap.size 30 1 (.slice (some ⟨w3.heap.size, 0, none⟩) 1 1) 1 [.slice ql p.length cl] :=
              World.ownsRow_lit (base := w3.heap.size) (e := 30) (size := 1) w3 #[.slice ql p.length cl] 1 (Nat.le_refl _) (by decide) rfl
            have HLIT := Lib.hid hlit
            have hbA : Below w3.heap.size w3 (w3.alloc (.cells #[.slice ql p.length cl] 30)) := (Below.refl _ _).alloc (Nat.le_refl _) _
            have hnews : ∀ (j : Nat) (u : Value), vs3[j]? = some u → (w3.alloc (.cells #[.slice ql p.length cl] 30)).cell? (a3.add j) = some u := by
              intro j u hj
              rcases HLS3.out.1 with h | ⟨b', off', e, hz, hcc⟩
              · rw [h] at hj; simp at hj
              · injection e with e
                subst e
                rw [addr_add_off]
                exact (hbA.cell (p := ⟨b', off' + j, none⟩) hz).trans (hcc j u hj)
            have HNEWS := Lib.hid hnews
            have h1c : ∀ u ∈ vs3, u.oneCell' = true := InL.all (by rintro u l ⟨q, c, rfl, _⟩; rfl) HLS3.out.2.1
            have H1C := Lib.hid h1c
            clear hi hz0 hz1 hz2 hlit hnews h1c
            go_wp2_with (at_builtin; refine wpList_append_blk _ rfl (.tmp 31) (.tmp 32) 44 rfl w3.heap.size 30 i0 _ 1 24 Try.underlying44 HI.out HZ0.out HZ1.out HZ2.out rfl (by decide) _ 1 [.slice ql p.length cl] rfl HLIT.out a3 l.length c3 vs3 rfl (by rw [HVL3.out]; omega) HNEWS.out H1C.out (by unfold maxLen; omega) (by omega) (by simp) hl0 ?_; intro v5 w5 hown5 hgr5 hbk5)
            have hb5 : Below w3.heap.size w3 w5 := hbA.trans (grown_below HLIT.out (by simp) hgr5)
            obtain ⟨q5, c5, rfl, hr5, hc5, hq5⟩ := rowV_of_owns hown5 (by intro h; omega)
            have hsome : ∃ a, q5 = some a := by
              cases q5 with
              | some a => exact ⟨a, rfl⟩
              | none =>
                rcases hr5 with h | ⟨_, _, e, _⟩
                · simp at h
                · cases e
            obtain ⟨a5, rfl⟩ := hsome
            have hb23 : Below wr.heap.size wr w5 := (hb2.on hb3).on hb5
            go_ret
            refine ⟨some a5, c5, [.slice ql p.length cl] ++ vs3, ?_, ⟨hr5, ?_, fun a ha => ?_⟩, ?_, by simp, hbw3.on hb5⟩
            · show Ending.returned (.slice (some a5) (1 + l.length) c5) = _
              rw [HST2.out, Option.getD_some, List.length_cons, Nat.add_comm 1 l.length]
            · rw [HST2.out, Option.getD_some]
              exact ⟨HPA.out.below (Nat.le_refl _) hb23, InL.mono (fun v l h => h.below (Nat.le_refl _) hb5) HLS3.out.2.1⟩
            · have := hq5 a ha
              exact ⟨by have := hbw3.size; omega, this.2⟩
            · rw [HST2.out]; rfl
        · have hjc2 : ¬ ((j + 1 : Nat) : Int) = (c : Int) := by omega
          have hap := apartFrom_any (.slice ql p.length cl) p lo (some ⟨b, off + (j + 1), none⟩) (c - (j + 1)) (vs.drop (j + 1)) (ls.drop (j + 1)) wr (by omega) hpA hgl hdr (by rw [List.length_drop]; omega) (fun l hl => HG.out l (List.mem_of_mem_drop hl))
          rw [List.length_drop] at hap
          have HAP := Lib.hid hap
          have HST := Lib.hid hst
          have HRE := Lib.hid hrest
          have HPA := Lib.hid hpA
          clear hap hst hrest hv hcell hdr hpA
          go_wp2_with (go_at_call 52; refine HAP.out.mono ?_; rintro e w2 ⟨q2, c2, vs2, rfl, hls2, hb2, hcap2⟩)
          go_at_call 19
          have hih := HIH.out lo q2 c2 vs2 (apartFrom p (ls.drop (j + 1))) w2 (by omega) (Nat.le_trans hlo (hbel.on hb2).size) hls2 hcap2 (Nat.le_trans (apartFrom_le _ _) (by rw [List.length_drop]; omega)) (fun l hl => HG.out l (List.mem_of_mem_drop (List.mem_filter.1 hl).1))
          rw [show ((k + 1 : Nat) : Int) = (k : Int) + 1 by omega] at hih
          (with_reducible refine hih.mono ?_)
          clear hih
          rintro e w3 ⟨q3, c3, vs3, rfl, hls3, hnone3, hc3, hb3⟩
          dsimp only
          have hbw3 : Below w.heap.size w w3 := (hbel.on hb2).on hb3
          cases hres : apartS k (apartFrom p (ls.drop (j + 1))) with
          | none =>
            rw [hres] at hnone3 hls3
            have hq3 : q3 = none := by cases q3 with
              | none => rfl
              | some a => cases hnone3
            subst hq3
            have hst2 : apartS (k + 1) ls = apartS (k + 1) (ls.drop (j + 1)) := by rw [HST.out, hres]
            have HST2 := Lib.hid hst2
            clear hst2 hres hnone3 hls3 hls2
            go_wp2
            go_roundw
            case rel => exact ⟨_, _, _, _, _, ⟨j + 1, hlt, by go_num, HST2.out.symm⟩, rfl, rfl, rfl, rfl, rfl⟩
            case measure => simp [intOf]; omega
          | some l =>
            rw [hres] at hnone3 hls3
            obtain ⟨a3, ha3⟩ : ∃ a, q3 = some a := by cases q3 with
              | none => cases hnone3
              | some a => exact ⟨a, rfl⟩
            subst ha3
            have hst2 : apartS (k + 1) ls = some (p :: l) := by rw [HST.out, hres]
            obtain ⟨hl1, _⟩ := apartS_len k _ l hres
            have hlk2 : l.length ≤ 100001 := by omega
            have hl0 : 0 < l.length := by omega
            have HST2 := Lib.hid hst2
            have HLS3 := Lib.hid hls3
            have hvl3 := hls3.2.1.len
            have HVL3 := Lib.hid hvl3
            clear hst2 hres hnone3 hls3 hls2 hvl3 hl1
            rw [Option.getD_some] at HLS3 HVL3 ⊢
            obtain ⟨i0, hi, hz0, hz1, hz2⟩ := info_parts infoL
            have HI := Lib.hid hi
            have HZ0 := Lib.hid hz0
            have HZ1 := Lib.hid hz1
            have HZ2 := Lib.hid hz2
            have hlit : (w3.alloc (.cells #[.slice ql p.length cl] 30)).ownsRow w3.heap.size 30 1 (.slice (some ⟨w3.heap.size, 0, none⟩) 1 1) 1 [.slice ql p.length cl] :=
              World.ownsRow_lit (base := w3.heap.size) (e := 30) (size := 1) w3 #[.slice ql p.length cl] 1 (Nat.le_refl _) (by decide) rfl
            have HLIT := Lib.hid hlit
            have hbA : Below w3.heap.size w3 (w3.alloc (.cells #[.slice ql p.length cl] 30)) := (Below.refl _ _).alloc (Nat.le_refl _) _
            have hnews : ∀ (j : Nat) (u : Value), vs3[j]? = some u → (w3.alloc (.cells #[.slice ql p.length cl] 30)).cell? (a3.add j) = some u := by
              intro j u hj
              rcases HLS3.out.1 with h | ⟨b', off', e, hz, hcc⟩
              · rw [h] at hj; simp at hj
              · injection e with e
                subst e
                rw [addr_add_off]
                exact (hbA.cell (p := ⟨b', off' + j, none⟩) hz).trans (hcc j u hj)
            have HNEWS := Lib.hid hnews
            have h1c : ∀ u ∈ vs3, u.oneCell' = true := InL.all (by rintro u l ⟨q, c, rfl, _⟩; rfl) HLS3.out.2.1
            have H1C := Lib.hid h1c
            clear hi hz0 hz1 hz2 hlit hnews h1c
            go_wp2_with (at_builtin; refine wpList_append_blk _ rfl (.tmp 31) (.tmp 32) 44 rfl w3.heap.size 30 i0 _ 1 24 Try.underlying44 HI.out HZ0.out HZ1.out HZ2.out rfl (by decide) _ 1 [.slice ql p.length cl] rfl HLIT.out a3 l.length c3 vs3 rfl (by rw [HVL3.out]; omega) HNEWS.out H1C.out (by unfold maxLen; omega) (by omega) (by simp) hl0 ?_; intro v5 w5 hown5 hgr5 hbk5)
            have hb5 : Below w3.heap.size w3 w5 := hbA.trans (grown_below HLIT.out (by simp) hgr5)
            obtain ⟨q5, c5, rfl, hr5, hc5, hq5⟩ := rowV_of_owns hown5 (by intro h; omega)
            have hsome : ∃ a, q5 = some a := by
              cases q5 with
              | some a => exact ⟨a, rfl⟩
              | none =>
                rcases hr5 with h | ⟨_, _, e, _⟩
                · simp at h
                · cases e
            obtain ⟨a5, rfl⟩ := hsome
            have hb23 : Below wr.heap.size wr w5 := (hb2.on hb3).on hb5
            go_ret
            refine ⟨some a5, c5, [.slice ql p.length cl] ++ vs3, ?_, ⟨hr5, ?_, fun a ha => ?_⟩, ?_, by simp, hbw3.on hb5⟩
            · show Ending.returned (.slice (some a5) (1 + l.length) c5) = _
              rw [HST2.out, Option.getD_some, List.length_cons, Nat.add_comm 1 l.length]
            · rw [HST2.out, Option.getD_some]
              exact ⟨HPA.out.below (Nat.le_refl _) hb23, InL.mono (fun v l h => h.below (Nat.le_refl _) hb5) HLS3.out.2.1⟩
            · have := hq5 a ha
              exact ⟨by have := hbw3.size; omega, this.2⟩
            · rw [HST2.out]; rfl
      · obtain rfl : j = ls.length := by omega
        rw [List.drop_length, apartS_nil] at hrest
        have HRE := Lib.hid hrest
        clear hrest
        go_wp2
        go_ret
        exact ⟨none, 0, [], by rw [← HRE.out]; rfl, by rw [← HRE.out]; exact listsAt_nil _ _, by rw [← HRE.out]; rfl, fun _ => rfl, hbel⟩

/-- lists, an error: what Apart answers -/
def RetA (w : World) (ls : List (List Int)) (err : Int) (e : Ending) (w' : World) : Prop :=
  ∃ q c vs, e = .returned (.tuple #[.slice q ls.length c, .int .i64 err]) ∧ ListsAt w' w.heap.size q vs ls ∧ Below w.heap.size w w'
set_option maxRecDepth 100000 in
theorem Apart_any (n : Int) (q : Option Addr) (cap : Nat) (cs : List Ch) (k : Int) (w : World) (hr : RowV w q (flatT cs)) (hcap : cs.length ≤ cap) :
    Calls Try.prog 32 #[hillV n q cs.length cap, .int .i64 k] w (RetA w (apartOf n.toNat cs k).1 (apartOf n.toNat cs k).2) := by
  have hb0 : Below w.heap.size w (w.alloc (.cells #[.int .i64 n, .slice q cs.length cap] 28)) := (Below.refl _ _).alloc (Nat.le_refl _) _
  have c1 := Check_any n q cap cs _ (hr.below (Nat.le_refl _) hb0) hcap
  have HB := Lib.hid hb0
  by_cases h0 : errD n cs = 0
  · obtain ⟨m, rfl, hchs⟩ := chs_of h0
    have hans : apartOf ((m : Int).toNat) cs k = if k < 1 ∨ 4 < k then (([], 1) : List (List Int) × Int) else match apartS (k.toNat - 1) (plansS m cs) with | none => (([], 12) : List (List Int) × Int) | some l => ((l, 0) : List (List Int) × Int) := by
      unfold apartOf
      rw [Int.toNat_natCast, if_neg (fun h => h h0)]
      rfl
    have hpl := fun W hb => plansOf_any m q cap cs W hchs (hr.below (Nat.le_refl _) hb)
    have hlen : (plansS m cs).length ≤ 100000 := by have := plansS_len hchs; omega
    have hg : ∀ l ∈ plansS m cs, l.length ≤ 1000 := fun l hl => (goodL_plans hchs l hl).2
    rw [hans]
    generalize plansS m cs = ls at hpl hlen hg ⊢
    unfold hillV RetL at *
    rw [h0] at c1
    have C1 := Lib.hid c1
    have HPL := Lib.hid hpl
    have HG := Lib.hid hg
    by_cases hk : k < 1 ∨ 4 < k
    · rw [if_pos hk]
      rcases hk with hk | hk
      · clear hans h0 hr hb0 hchs c1 hpl hg
        go_enter Try.func32, Try.ntmps32
        go_wp2_with (go_at_call 17; refine C1.out.mono ?_; rintro e w1 ⟨rfl, hb1⟩; have hac1 : Below w.heap.size w w1 := HB.out.on hb1)
        go_ret2
        exact ⟨none, 0, [], rfl, listsAt_nil _ _, hac1⟩
      · have hk1 : ¬ k < 1 := by omega
        clear hans h0 hr hb0 hchs c1 hpl hg
        go_enter Try.func32, Try.ntmps32
        go_wp2_with (go_at_call 17; refine C1.out.mono ?_; rintro e w1 ⟨rfl, hb1⟩; have hac1 : Below w.heap.size w w1 := HB.out.on hb1)
        go_ret2
        exact ⟨none, 0, [], rfl, listsAt_nil _ _, hac1⟩
    · rw [if_neg hk]
      have hk1 : ¬ k < 1 := by omega
      have hk4 : ¬ 4 < k := by omega
      obtain ⟨j, hj⟩ : ∃ j : Nat, k = ((j + 1 : Nat) : Int) := ⟨k.toNat - 1, by omega⟩
      rw [show k.toNat - 1 = j by omega]
      have hfa := fun W lo q c vs h1 h2 h3 => firstApart_any j lo q c vs ls W (by omega) h1 h2 h3 hlen hg
      rw [← hj] at hfa
      cases hres : apartS j ls with
      | none =>
        unfold FirstA at hfa
        rw [hres] at hfa
        have HFA := Lib.hid hfa
        clear hans h0 hr hb0 hchs c1 hpl hg hk hres hfa hj hlen
        go_enter Try.func32, Try.ntmps32
        go_wp2_with (first
          | (go_at_call 17; refine C1.out.mono ?_; rintro e w1 ⟨rfl, hb1⟩; obtain ⟨hc1, hf1⟩ := bcell hb1; have hac1 : Below w.heap.size w w1 := HB.out.on hb1; have hz0 : w.heap.size < w1.heap.size := (by have := hb1.size; simp at this; omega))
          | (go_at_call 18; refine (HPL.out w1 hac1).mono ?_; rintro e w2 ⟨q2, c2, vs, rfl, hvl, hnil, hlsA, hb2, hcap2⟩; have HVL := Lib.hid hvl; clear hvl hnil)
          | (go_at_call 19; refine (HFA.out w2 _ q2 c2 vs hb2.size hlsA hcap2).mono ?_; rintro e w3 ⟨q3, c3, vs3, rfl, hls3, hn3, hc3, hb3⟩; obtain rfl : q3 = none := (by cases q3 with | none => rfl | some a => cases hn3)))
        go_ret2
        exact ⟨none, 0, [], rfl, listsAt_nil _ _, (hac1.on hb2).on hb3⟩
      | some l =>
        unfold FirstA at hfa
        rw [hres] at hfa
        have HFA := Lib.hid hfa
        clear hans h0 hr hb0 hchs c1 hpl hg hk hres hfa hj hlen
        go_enter Try.func32, Try.ntmps32
        go_wp2_with (first
          | (go_at_call 17; refine C1.out.mono ?_; rintro e w1 ⟨rfl, hb1⟩; obtain ⟨hc1, hf1⟩ := bcell hb1; have hac1 : Below w.heap.size w w1 := HB.out.on hb1; have hz0 : w.heap.size < w1.heap.size := (by have := hb1.size; simp at this; omega))
          | (go_at_call 18; refine (HPL.out w1 hac1).mono ?_; rintro e w2 ⟨q2, c2, vs, rfl, hvl, hnil, hlsA, hb2, hcap2⟩; have HVL := Lib.hid hvl; clear hvl hnil)
          | (go_at_call 19; refine (HFA.out w2 _ q2 c2 vs hb2.size hlsA hcap2).mono ?_; rintro e w3 ⟨q3, c3, vs3, rfl, hls3, hn3, hc3, hb3⟩; obtain ⟨a3, rfl⟩ : ∃ a, q3 = some a := (by cases q3 with | none => cases hn3 | some a => exact ⟨a, rfl⟩)))
        go_ret2
        exact ⟨_, c3, vs3, rfl, hls3.lower hac1.size, (hac1.on hb2).on hb3⟩
  · have hans : apartOf n.toNat cs k = ([], errD n cs) := by
      unfold apartOf
      rw [errD_nat, if_pos h0]
    rw [hans]
    have hb : (errD n cs != 0) = true := by simpa using h0
    unfold hillV at *
    have C1 := Lib.hid c1
    clear hans h0 hr hb0 c1
    go_enter Try.func32, Try.ntmps32
    go_wp2_with (go_at_call 17; refine C1.out.mono ?_; rintro e w1 ⟨rfl, hb1⟩)
    go_ret2
    exact ⟨none, 0, [], rfl, listsAt_nil _ _, HB.out.on hb1⟩
end Go.Proofs.Ytlkdkamhebggbaa.drn

/- Package drain, the walks: plansWithChannel, Without. -/
namespace Go.Proofs.Ytlkdkamhebggbaa.drn
open Go.RowKit
set_option linter.unusedSimpArgs false
set_option linter.unusedVariables false

def withS (n : Nat) (cs : List Ch) (i : Int) : List (List Int) × Int := if errD n cs ≠ 0 then ([], errD n cs) else if !isGal cs.length i then ([], 2) else (plansS n cs, 0)
set_option maxRecDepth 100000 in
theorem plansWith_any (n : Int) (q : Option Addr) (cap : Nat) (cs : List Ch) (i : Int) (w : World) (hr : RowV w q (flatT cs)) (hcap : cs.length ≤ cap) :
    Calls Try.prog 63 #[hillV n q cs.length cap, .int .i64 i] w (RetLE w (withS n.toNat cs i).1 (withS n.toNat cs i).2) := by
  have hb0 : Below w.heap.size w (w.alloc (.cells #[.int .i64 n, .slice q cs.length cap] 28)) := (Below.refl _ _).alloc (Nat.le_refl _) _
  have c1 := Check_any n q cap cs _ (hr.below (Nat.le_refl _) hb0) hcap
  have hhc := fun W => hasChannel_any n q cs.length cap i W
  have HR := Lib.hid hr
  have HB := Lib.hid hb0
  by_cases h0 : errD n cs = 0
  · obtain ⟨m, rfl, hchs⟩ := chs_of h0
    have hans : withS ((m : Int).toNat) cs i = if !isGal cs.length i then ([], 2) else (plansS m cs, 0) := by
      unfold withS
      rw [Int.toNat_natCast, if_neg (fun h => h h0)]
    have hpl := fun W hb => plansOf_any m q cap cs W hchs (hr.below (Nat.le_refl _) hb)
    rw [hans]
    generalize plansS m cs = ls at hpl ⊢
    obtain ⟨gg, hgg⟩ : ∃ gg, isGal cs.length i = gg := ⟨_, rfl⟩
    rw [hgg]
    simp only [hgg] at hhc
    unfold hillV at *
    rw [h0] at c1
    have C1 := Lib.hid c1
    have HPL := Lib.hid hpl
    have HHC := Lib.hid hhc
    clear hans h0 hr hb0 hchs c1 hpl hhc hgg
    cases gg with
    | false =>
      go_enter Try.func63, Try.ntmps63
      go_wp2_with (first
        | (go_at_call 17; refine C1.out.mono ?_; rintro e w1 ⟨rfl, hb1⟩; obtain ⟨hc1, hf1⟩ := bcell hb1; have hac1 : Below w.heap.size w w1 := HB.out.on hb1; have hz0 : w.heap.size < w1.heap.size := (by have := hb1.size; simp at this; omega))
        | (go_at_call 75; refine (HHC.out w1).mono ?_; rintro e w2 ⟨rfl, hb2⟩; obtain ⟨hc2, hf2⟩ := bcell hb2; have hac2 : Below w.heap.size w w2 := hac1.on hb2))
      go_ret2
      exact ⟨none, 0, [], rfl, rfl, fun _ => ⟨rfl, rfl⟩, listsAt_nil _ _, hac2⟩
    | true =>
      go_enter Try.func63, Try.ntmps63
      go_wp2_with (first
        | (go_at_call 17; refine C1.out.mono ?_; rintro e w1 ⟨rfl, hb1⟩; obtain ⟨hc1, hf1⟩ := bcell hb1; have hac1 : Below w.heap.size w w1 := HB.out.on hb1; have hz0 : w.heap.size < w1.heap.size := (by have := hb1.size; simp at this; omega))
        | (go_at_call 75; refine (HHC.out w1).mono ?_; rintro e w2 ⟨rfl, hb2⟩; obtain ⟨hc2, hf2⟩ := bcell hb2; have hac2 : Below w.heap.size w w2 := hac1.on hb2)
        | (go_at_call 18; refine (HPL.out w2 hac2).mono ?_; rintro e w3 ⟨q2, c2, vs, rfl, hvl, hnil, hlsA, hb3, _⟩))
      go_ret2
      exact ⟨q2, c2, vs, rfl, hvl, hnil, hlsA.lower hac2.size, hac2.on hb3⟩
  · have hans : withS n.toNat cs i = ([], errD n cs) := by
      unfold withS
      rw [errD_nat, if_pos h0]
    rw [hans]
    have hb : (errD n cs != 0) = true := by simpa using h0
    unfold hillV at *
    have C1 := Lib.hid c1
    clear hans h0 hr hb0 c1 hhc
    go_enter Try.func63, Try.ntmps63
    go_wp2_with (go_at_call 17; refine C1.out.mono ?_; rintro e w1 ⟨rfl, hb1⟩)
    go_ret2
    exact ⟨none, 0, [], rfl, rfl, fun _ => ⟨rfl, rfl⟩, listsAt_nil _ _, HB.out.on hb1⟩

theorem withS_cases (n i : Int) (cs : List Ch) : ((withS n.toNat cs i).1 = [] ∧ (withS n.toNat cs i).2 ≠ 0) ∨ ∃ m : Nat, n = m ∧ Chs m cs ∧ errD n cs = 0 ∧ isGal cs.length i = true ∧ withS n.toNat cs i = (plansS m cs, 0) := by
  by_cases h0 : errD n cs = 0
  · obtain ⟨m, rfl, hchs⟩ := chs_of h0
    have hans : withS ((m : Int).toNat) cs i = if !isGal cs.length i then ([], 2) else (plansS m cs, 0) := by
      unfold withS
      rw [Int.toNat_natCast, if_neg (fun h => h h0)]
    by_cases hg : isGal cs.length i = true
    · rw [hans, hg]
      exact .inr ⟨m, rfl, hchs, h0, rfl, rfl⟩
    · have hg' : isGal cs.length i = false := by simpa using hg
      rw [hans, hg']
      exact .inl ⟨rfl, by show (2 : Int) ≠ 0; decide⟩
  · have hans : withS n.toNat cs i = ([], errD n cs) := by
      unfold withS
      rw [errD_nat, if_pos h0]
    rw [hans]
    exact .inl ⟨rfl, h0⟩
theorem without_err {n : Nat} {cs : List Ch} {i : Int} (h : (withS n cs i).2 ≠ 0) : withoutOf n cs i = (0, (withS n cs i).2) := by
  by_cases h0 : errD n cs = 0
  · by_cases hg : isGal cs.length i = true
    · have e : withS n cs i = (plansS n cs, 0) := by rw [withS, if_neg (fun h => h h0), hg, if_neg (by decide)]
      rw [e] at h
      exact absurd rfl h
    · have hg' : isGal cs.length i = false := by simpa using hg
      have e1 : withoutOf n cs i = (0, 2) := by rw [withoutOf, if_neg (fun h => h h0), hg', if_pos (by decide)]
      have e2 : withS n cs i = ([], 2) := by rw [withS, if_neg (fun h => h h0), hg', if_pos (by decide)]
      rw [e1, e2]
  · have e1 : withoutOf n cs i = (0, errD n cs) := by rw [withoutOf, if_pos h0]
    have e2 : withS n cs i = ([], errD n cs) := by rw [withS, if_pos h0]
    rw [e1, e2]
theorem price_err {n : Nat} {cs : List Ch} {i : Int} (h : (withS n cs i).2 ≠ 0) : priceOf n cs i = (0, (withS n cs i).2) := by
  by_cases h0 : errD n cs = 0
  · by_cases hg : isGal cs.length i = true
    · have e : withS n cs i = (plansS n cs, 0) := by rw [withS, if_neg (fun h => h h0), hg, if_neg (by decide)]
      rw [e] at h
      exact absurd rfl h
    · have hg' : isGal cs.length i = false := by simpa using hg
      have e1 : priceOf n cs i = (0, 2) := by rw [priceOf, if_neg (fun h => h h0), hg', if_pos (by decide)]
      have e2 : withS n cs i = ([], 2) := by rw [withS, if_neg (fun h => h h0), hg', if_pos (by decide)]
      rw [e1, e2]
  · have e1 : priceOf n cs i = (0, errD n cs) := by rw [priceOf, if_pos h0]
    have e2 : withS n cs i = ([], errD n cs) := by rw [withS, if_pos h0]
    rw [e1, e2]
theorem least_bd {n : Nat} {cs : List Ch} (hc : Chs n cs) {ls : List (List Int)} (hg : GoodL cs ls) (hne : ls ≠ []) : 0 ≤ leastS cs ls ∧ leastS cs ls ≤ 20000 := by
  obtain ⟨p, hp, e, _⟩ := least_spec (n := n) hc.ok hne
  have := costS_bd hc.ok p
  have := (hg p hp).2
  rw [e]
  omega

theorem leastL_any (n : Nat) (q : Option Addr) (cap : Nat) (cs : List Ch) (lo : Nat) (qp : Option Addr) (cp : Nat) (vs : List Value) (ls : List (List Int)) (w : World) (hc : Chs n cs) (hr : RowV w q (flatT cs))
    (hls : ListsAt w lo qp vs ls) (hg : GoodL cs ls) (hl : ls.length ≤ 100000) (hne : ls ≠ []) :
    Calls Try.prog 16 #[hillV n q cs.length cap, .slice qp ls.length cp] w fun e w' => e = .returned (.int .i64 (leastS cs ls)) ∧ Below w.heap.size w w' := by
  cases ls with
  | nil => exact absurd rfl hne
  | cons p ps => exact leastOf_any n q cap cs lo qp cp vs p ps w hc hr hls hg hl

set_option maxRecDepth 100000 in
set_option maxHeartbeats 1000000 in
theorem Without_any (n : Int) (q : Option Addr) (cap : Nat) (cs : List Ch) (i : Int) (w : World) (hr : RowV w q (flatT cs)) (hcap : cs.length ≤ cap) :
    Calls Try.prog 37 #[hillV n q cs.length cap, .int .i64 i] w (RetK w (withoutOf n.toNat cs i).1 (withoutOf n.toNat cs i).2) := by
  have hb0 : Below w.heap.size w (w.alloc (.cells #[.int .i64 n, .slice q cs.length cap] 28)) := (Below.refl _ _).alloc (Nat.le_refl _) _
  have c1 := plansWith_any n q cap cs i _ (hr.below (Nat.le_refl _) hb0) hcap
  have HB := Lib.hid hb0
  rcases withS_cases n i cs with ⟨h1, h2⟩ | ⟨m, rfl, hchs, h0, hgal, h1⟩
  · rw [without_err h2]
    rw [h1] at c1
    have hb : ((withS n.toNat cs i).2 != 0) = true := by simpa using h2
    generalize (withS n.toNat cs i).2 = err at c1 hb h2
    unfold hillV at *
    have C1 := Lib.hid c1
    clear h1 h2 hr hb0 c1
    go_enter Try.func37, Try.ntmps37
    go_wp2_with (go_at_call 63; refine C1.out.mono ?_; rintro e w1 ⟨q1, cc1, vs1, rfl, hvl, hnil, hls, hb1⟩)
    go_ret2
    exact ⟨rfl, HB.out.on hb1⟩
  · have hans : withoutOf ((m : Int).toNat) cs i = if (oth i (plansS m cs)).length = 0 then (0, 12) else (leastS cs (oth i (plansS m cs)) - leastS cs (plansS m cs), 0) := by
      unfold withoutOf
      rw [Int.toNat_natCast, if_neg (fun h => h h0), hgal, if_neg (by decide)]
    rw [h1] at c1
    rw [hans]
    have hg := goodL_plans hchs
    have hgo : GoodL cs (oth i (plansS m cs)) := hg.sub fun k hk => (List.mem_filter.1 hk).1
    have hlen : (plansS m cs).length ≤ 100000 := by have := plansS_len hchs; omega
    have hleno : (oth i (plansS m cs)).length ≤ 100000 := Nat.le_trans (List.length_filter_le _ _) hlen
    have hsub : oth i (plansS m cs) ≠ [] → plansS m cs ≠ [] := by intro h e; rw [e] at h; exact h rfl
    have hdv := fun W lo q c vs h1 h2 => divided_any i lo q c vs (plansS m cs) W h1 h2 hlen (fun l hl => (hg l hl).2)
    have hle := fun W qp cp vs lo (ls : List (List Int)) hb hls hgl hll hne => leastL_any m q cap cs lo qp cp vs ls W hchs (hr.below (Nat.le_refl _) hb) hls hgl hll hne
    have hbd1 := fun hne => least_bd hchs hg hne
    have hbd2 := fun hne => least_bd hchs hgo hne
    generalize hpl : plansS m cs = ls at *
    unfold RetLL at hdv
    generalize hot : oth i ls = os at *
    generalize hav i ls = hs at hdv
    unfold hillV RetLE at *
    have C1 := Lib.hid c1
    have HDV := Lib.hid hdv
    have HLE := Lib.hid hle
    have HG := Lib.hid hg
    have HGO := Lib.hid hgo
    by_cases hos : os.length = 0
    · rw [if_pos hos]
      have hb : ((os.length : Int) == 0) = true := by simp [hos]
      clear hans hr hb0 c1 hdv hle hg hgo hbd1 hbd2 hsub hot hpl hos h1 h0 hgal hchs
      go_enter Try.func37, Try.ntmps37
      go_wp2_with (first
        | (go_at_call 63; refine C1.out.mono ?_; rintro e w1 ⟨q1, cc1, vs1, rfl, hvl, hnil, hls, hb1⟩; have HVL := Lib.hid hvl; clear hvl; have hac1 : Below w.heap.size w w1 := HB.out.on hb1)
        | (go_at_call 64; refine (HDV.out w1 _ q1 cc1 vs1 hb1.size hls).mono ?_; rintro e w2 ⟨qa, ca, va, qb, cb, vb, rfl, hla, hlb, hb2⟩))
      go_ret2
      exact ⟨rfl, hac1.on hb2⟩
    · rw [if_neg hos]
      have hb : ((os.length : Int) == 0) = false := beq_eq_false_iff_ne.2 (by omega)
      have hone : os ≠ [] := fun e => hos (by rw [e]; rfl)
      have hlne := hsub hone
      have b1 := hbd1 hlne
      have b2 := hbd2 hone
      have hw : IntKind.i64.wrap (leastS cs os - leastS cs ls) = leastS cs os - leastS cs ls := IntWalk.i64_in _ ⟨by omega, by omega⟩
      have hle1 := fun W qp cp vs lo hb hls => hle W qp cp vs lo os hb hls hgo hleno hone
      have hle2 := fun W qp cp vs lo hb hls => hle W qp cp vs lo ls hb hls hg hlen hlne
      clear HLE
      clear hans hr hb0 c1 hdv hle hg hgo hbd1 hbd2 hsub hot hpl hos h1 h0 hgal hchs hone hlne b1 b2
      generalize leastS cs os = x1 at *
      generalize leastS cs ls = x2 at *
      have HLE1 := Lib.hid hle1
      have HLE2 := Lib.hid hle2
      clear hle1 hle2
      go_enter Try.func37, Try.ntmps37
      go_upto_region 7 with (first
        | (go_at_call 63; refine C1.out.mono ?_; rintro e w1 ⟨q1, cc1, vs1, rfl, hvl, hnil, hls, hb1⟩; have HVL := Lib.hid hvl; clear hvl; have hac1 : Below w.heap.size w w1 := HB.out.on hb1; obtain ⟨hc1, hf1⟩ := bcell hb1; have hz0 : w.heap.size < w1.heap.size := (by have := hb1.size; simp at this; omega))
        | (go_at_call 64; refine (HDV.out w1 _ q1 cc1 vs1 hb1.size hls).mono ?_; rintro e w2 ⟨qa, ca, va, qb, cb, vb, rfl, hla, hlb, hb2⟩; have hac2 : Below w.heap.size w w2 := hac1.on hb2))
      obtain ⟨d0, d1⟩ : w1.cell? ⟨w.heap.size, 0, none⟩ = some (.int .i64 m) ∧ w1.cell? ⟨w.heap.size, 1, none⟩ = some (.slice q cs.length cap) := ⟨by rw [hc1 _ _ (by simp)]; simp, by rw [hc1 _ _ (by simp)]; simp⟩
      have e0 := (hb2.cell (p := ⟨w.heap.size, 0, none⟩) hz0).trans d0
      have e1 := (hb2.cell (p := ⟨w.heap.size, 1, none⟩) hz0).trans d1
      have hz2 : w.heap.size < w2.heap.size := Nat.lt_of_lt_of_le hz0 hb2.size
      have hls2 := hls.below (Nat.le_refl _) hb2
      clear hc1 hf1 d0 d1 hls hla
      go_region_held3 (fun W => W.cell? ⟨w.heap.size, 0, none⟩ = some (.int .i64 m) ∧ W.cell? ⟨w.heap.size, 1, none⟩ = some (.slice q cs.length cap)) (first | exact ⟨e0, e1⟩ | exact ⟨f0, f1⟩ | exact ⟨g0, g1⟩ | go_keep)
        (first
        | (go_at_call 16; have hcc := HLE1.out w2.drew qb cb vb _ hac2.drew (hlb.below (Nat.le_refl _) (Below.refl _ _).drew); (with_reducible refine hcc.mono ?_); rintro e w3 ⟨rfl, hb3'⟩; have hb3 : Below w2.heap.size w2 w3 := (((Below.refl _ _).drew).on hb3'); have f0 := (hb3.cell (p := ⟨w.heap.size, 0, none⟩) hz2).trans e0; have f1 := (hb3.cell (p := ⟨w.heap.size, 1, none⟩) hz2).trans e1; have hac3 : Below w.heap.size w w3 := hac2.on hb3)
        | (go_at_call 16; have hcc := HLE2.out w3 q1 cc1 vs1 _ hac3 (hls2.below (Nat.le_refl _) hb3); (with_reducible refine hcc.mono ?_); rintro e w4 ⟨rfl, hb4⟩; have g0 := (hb4.cell (p := ⟨w.heap.size, 0, none⟩) (Nat.lt_of_lt_of_le hz2 hb3.size)).trans f0; have g1 := (hb4.cell (p := ⟨w.heap.size, 1, none⟩) (Nat.lt_of_lt_of_le hz2 hb3.size)).trans f1)
        | fail)
      clear e0 e1 f0 f1 g0 g1
      go_wp2
      go_ret2
      exact ⟨rfl, hac3.on hb4⟩
end Go.Proofs.Ytlkdkamhebggbaa.drn

/- Package drain, the walks: Price. -/
namespace Go.Proofs.Ytlkdkamhebggbaa.drn
open Go.RowKit
set_option linter.unusedSimpArgs false
set_option linter.unusedVariables false

set_option maxRecDepth 100000 in
set_option maxHeartbeats 1000000 in
theorem Price_any (n : Int) (q : Option Addr) (cap : Nat) (cs : List Ch) (i : Int) (w : World) (hr : RowV w q (flatT cs)) (hcap : cs.length ≤ cap) :
    Calls Try.prog 33 #[hillV n q cs.length cap, .int .i64 i] w (RetK w (priceOf n.toNat cs i).1 (priceOf n.toNat cs i).2) := by
  have hb0 : Below w.heap.size w (w.alloc (.cells #[.int .i64 n, .slice q cs.length cap] 28)) := (Below.refl _ _).alloc (Nat.le_refl _) _
  have c1 := plansWith_any n q cap cs i _ (hr.below (Nat.le_refl _) hb0) hcap
  have HB := Lib.hid hb0
  rcases withS_cases n i cs with ⟨h1, h2⟩ | ⟨m, rfl, hchs, h0, hgal, h1⟩
  · rw [price_err h2]
    rw [h1] at c1
    have hb : ((withS n.toNat cs i).2 != 0) = true := by simpa using h2
    generalize (withS n.toNat cs i).2 = err at c1 hb h2
    unfold hillV at *
    have C1 := Lib.hid c1
    clear h1 h2 hr hb0 c1
    go_enter Try.func33, Try.ntmps33
    go_wp2_with (go_at_call 63; refine C1.out.mono ?_; rintro e w1 ⟨q1, cc1, vs1, rfl, hvl, hnil, hls, hb1⟩)
    go_ret2
    exact ⟨rfl, HB.out.on hb1⟩
  · obtain ⟨i, rfl⟩ : ∃ k : Nat, i = k := ⟨i.toNat, by have := (isGal_iff _ _).1 hgal; omega⟩
    have hil : i < cs.length := by have := (isGal_iff _ _).1 hgal; omega
    have hans : priceOf ((m : Int).toNat) cs i = if (hav i (plansS m cs)).length = 0 then (0, 12) else if (oth i (plansS m cs)).length = 0 then (0, 13)
        else (leastS cs (oth i (plansS m cs)) - (leastS cs (hav i (plansS m cs)) - (cs.getD i (0, 0, 0)).2.2), 0) := by
      unfold priceOf
      rw [Int.toNat_natCast, if_neg (fun h => h h0), hgal, if_neg (by decide), Int.toNat_natCast]
    have hok := getD_ok hchs.ok hil
    obtain ⟨b, off, rfl, hbz, _, _, hcell⟩ := rowT_at hr hil (Nat.le_refl _) (Below.refl _ _)
    generalize cs.getD i (0, 0, 0) = cc at hans hok hcell
    obtain ⟨_, _, _, hk0, hk20⟩ := hok
    generalize cc.2.2 = kost at *
    rw [h1] at c1
    rw [hans]
    have hg := goodL_plans hchs
    have hgo : GoodL cs (oth i (plansS m cs)) := hg.sub fun k hk => (List.mem_filter.1 hk).1
    have hlen : (plansS m cs).length ≤ 100000 := by have := plansS_len hchs; omega
    have hleno : (oth i (plansS m cs)).length ≤ 100000 := Nat.le_trans (List.length_filter_le _ _) hlen
    have hgh : GoodL cs (hav i (plansS m cs)) := hg.sub fun k hk => (List.mem_filter.1 hk).1
    have hlenh : (hav i (plansS m cs)).length ≤ 100000 := Nat.le_trans (List.length_filter_le _ _) hlen
    have hdv := fun W lo q c vs h1 h2 => divided_any i lo q c vs (plansS m cs) W h1 h2 hlen (fun l hl => (hg l hl).2)
    have hle := fun W qp cp vs lo (ls : List (List Int)) hb hls hgl hll hne => leastL_any m (some ⟨b, off, none⟩) cap cs lo qp cp vs ls W hchs (hr.below (Nat.le_refl _) hb) hls hgl hll hne
    have hbd1 := fun hne => least_bd hchs hgh hne
    have hbd2 := fun hne => least_bd hchs hgo hne
    generalize hpl : plansS m cs = ls at *
    unfold RetLL at hdv
    generalize hot : oth i ls = os at *
    generalize hht : hav i ls = hs at *
    unfold hillV RetLE at *
    have C1 := Lib.hid c1
    have HDV := Lib.hid hdv
    by_cases hhs : hs.length = 0
    · rw [if_pos hhs]
      have hb : ((hs.length : Int) == 0) = true := by simp [hhs]
      clear hans hr hb0 c1 hdv hle hg hgo hgh hbd1 hbd2 hot hht hpl hhs h1 h0 hgal hchs
      go_enter Try.func33, Try.ntmps33
      go_wp2_with (first
        | (go_at_call 63; refine C1.out.mono ?_; rintro e w1 ⟨q1, cc1, vs1, rfl, hvl, hnil, hls, hb1⟩; have HVL := Lib.hid hvl; clear hvl; have hac1 : Below w.heap.size w w1 := HB.out.on hb1)
        | (go_at_call 64; refine (HDV.out w1 _ q1 cc1 vs1 hb1.size hls).mono ?_; rintro e w2 ⟨qa, ca, va, qb, cb, vb, rfl, hla, hlb, hb2⟩))
      go_ret2
      exact ⟨rfl, hac1.on hb2⟩
    · rw [if_neg hhs]
      have hhb : ((hs.length : Int) == 0) = false := beq_eq_false_iff_ne.2 (by omega)
      by_cases hos : os.length = 0
      · rw [if_pos hos]
        have hb : ((os.length : Int) == 0) = true := by simp [hos]
        clear hans hr hb0 c1 hdv hle hg hgo hgh hbd1 hbd2 hot hht hpl hhs hos h1 h0 hgal hchs
        go_enter Try.func33, Try.ntmps33
        go_wp2_with (first
          | (go_at_call 63; refine C1.out.mono ?_; rintro e w1 ⟨q1, cc1, vs1, rfl, hvl, hnil, hls, hb1⟩; have HVL := Lib.hid hvl; clear hvl; have hac1 : Below w.heap.size w w1 := HB.out.on hb1)
          | (go_at_call 64; refine (HDV.out w1 _ q1 cc1 vs1 hb1.size hls).mono ?_; rintro e w2 ⟨qa, ca, va, qb, cb, vb, rfl, hla, hlb, hb2⟩))
        go_ret2
        exact ⟨rfl, hac1.on hb2⟩
      · rw [if_neg hos]
        have hb : ((os.length : Int) == 0) = false := beq_eq_false_iff_ne.2 (by omega)
        have hone : os ≠ [] := fun e => hos (by rw [e]; rfl)
        have hhne : hs ≠ [] := fun e => hhs (by rw [e]; rfl)
        have b1 := hbd1 hhne
        have b2 := hbd2 hone
        have hw : IntKind.i64.wrap (leastS cs hs - kost) = leastS cs hs - kost := IntWalk.i64_in _ ⟨by omega, by omega⟩
        have hw2 : IntKind.i64.wrap (leastS cs os - (leastS cs hs - kost)) = leastS cs os - (leastS cs hs - kost) := IntWalk.i64_in _ ⟨by omega, by omega⟩
        have hle1 := fun W qp cp vs lo hb hls => hle W qp cp vs lo hs hb hls hgh hlenh hhne
        have hle2 := fun W qp cp vs lo hb hls => hle W qp cp vs lo os hb hls hgo hleno hone
        have hil2 : (i : Int) < (cs.length : Int) := by omega
        clear hans hr hb0 c1 hdv hle hg hgo hgh hbd1 hbd2 hot hht hpl hhs hos h1 h0 hgal hchs hone hhne b1 b2
        generalize leastS cs hs = x1 at *
        generalize leastS cs os = x2 at *
        have HLE1 := Lib.hid hle1
        have HLE2 := Lib.hid hle2
        clear hle1 hle2
        go_enter Try.func33, Try.ntmps33
        go_upto_region 9 with (first
          | (go_at_call 63; refine C1.out.mono ?_; rintro e w1 ⟨q1, cc1, vs1, rfl, hvl, hnil, hls, hb1⟩; have HVL := Lib.hid hvl; clear hvl; have hac1 : Below w.heap.size w w1 := HB.out.on hb1; obtain ⟨hc1, hf1⟩ := bcell hb1; have hz0 : w.heap.size < w1.heap.size := (by have := hb1.size; simp at this; omega))
          | (go_at_call 64; refine (HDV.out w1 _ q1 cc1 vs1 hb1.size hls).mono ?_; rintro e w2 ⟨qa, ca, va, qb, cb, vb, rfl, hla, hlb, hb2⟩; have hac2 : Below w.heap.size w w2 := hac1.on hb2))
        obtain ⟨d0, d1⟩ : w1.cell? ⟨w.heap.size, 0, none⟩ = some (.int .i64 m) ∧ w1.cell? ⟨w.heap.size, 1, none⟩ = some (.slice (some ⟨b, off, none⟩) cs.length cap) := ⟨by rw [hc1 _ _ (by simp)]; simp, by rw [hc1 _ _ (by simp)]; simp⟩
        have e0 := (hb2.cell (p := ⟨w.heap.size, 0, none⟩) hz0).trans d0
        have e1 := (hb2.cell (p := ⟨w.heap.size, 1, none⟩) hz0).trans d1
        have e2 := (hac2.cell (p := ⟨b, off + i * 3 + 2, none⟩) hbz).trans hcell
        have hz2 : w.heap.size < w2.heap.size := Nat.lt_of_lt_of_le hz0 hb2.size
        have hbz2 : b < w2.heap.size := Nat.lt_of_lt_of_le hbz hac2.size
        clear hc1 hf1 d0 d1 hls
        go_region_held3 (fun W => W.cell? ⟨w.heap.size, 0, none⟩ = some (.int .i64 m) ∧ W.cell? ⟨w.heap.size, 1, none⟩ = some (.slice (some ⟨b, off, none⟩) cs.length cap) ∧ W.cell? ⟨b, off + i * 3 + 2, none⟩ = some (.int .i64 kost)) (first | exact ⟨e0, e1, e2⟩ | exact ⟨f0, f1, f2⟩ | go_keep)
          (first
          | (go_at_call 16; have hcc := HLE1.out w2.drew qa ca va _ hac2.drew (hla.below (Nat.le_refl _) (Below.refl _ _).drew); (with_reducible refine hcc.mono ?_); rintro e w3 ⟨rfl, hb3'⟩; have hb3 : Below w2.heap.size w2 w3 := (((Below.refl _ _).drew).on hb3'); have f0 := (hb3.cell (p := ⟨w.heap.size, 0, none⟩) hz2).trans e0; have f1 := (hb3.cell (p := ⟨w.heap.size, 1, none⟩) hz2).trans e1; have f2 := (hb3.cell (p := ⟨b, off + i * 3 + 2, none⟩) hbz2).trans e2; have hac3 : Below w.heap.size w w3 := hac2.on hb3)
          | fail)
        have hcc2 := HLE2.out w3 qb cb vb _ hac3 (hlb.below (Nat.le_refl _) hb3)
        have HCC2 := Lib.hid hcc2
        clear hcc2 e0 e1 e2 hla hlb
        go_wp2_with (go_at_call 16; refine HCC2.out.mono ?_; rintro e w4 ⟨rfl, hb4⟩)
        go_ret2
        exact ⟨rfl, hac3.on hb4⟩
end Go.Proofs.Ytlkdkamhebggbaa.drn

/- Package drain, the walks: Equal, Most. -/
namespace Go.Proofs.Ytlkdkamhebggbaa.drn
open Go.RowKit
set_option linter.unusedSimpArgs false
set_option linter.unusedVariables false
theorem equal_some (n : Nat) (cs : List Ch) : equalOf n cs = match (someS n cs).1 with
    | [] => (0, (someS n cs).2)
    | p :: ps => ((((p :: ps).filter fun r => costS cs r == leastS cs (p :: ps)).length : Nat), 0) := by
  by_cases h0 : errD n cs = 0
  · have e1 : equalOf n cs = if (plansS n cs).length = 0 then (0, 12) else (((((plansS n cs).filter fun p => costS cs p == leastS cs (plansS n cs)).length : Nat) : Int), 0) := by rw [equalOf, if_neg (fun h => h h0)]
    have e2 : someS n cs = if (plansS n cs).length = 0 then ([], 12) else (plansS n cs, 0) := by rw [someS, if_neg (fun h => h h0)]
    rw [e1, e2]
    generalize plansS n cs = ls
    cases ls with
    | nil => rfl
    | cons p ps => rfl
  · have e1 : equalOf n cs = (0, errD n cs) := by rw [equalOf, if_pos h0]
    have e2 : someS n cs = ([], errD n cs) := by rw [someS, if_pos h0]
    rw [e1, e2]
theorem filter_len_succ {α : Type} (p : α → Bool) (l : List α) (k : Nat) (d : α) (h : k < l.length) : ((l.take (k + 1)).filter p).length = ((l.take k).filter p).length + if p (l.getD k d) then 1 else 0 := by
  rw [filter_take_succ p l k d h, List.length_append]
  congr 1
  split <;> rfl

set_option maxRecDepth 100000 in
set_option maxHeartbeats 1000000 in
theorem Equal_any (n : Int) (q : Option Addr) (cap : Nat) (cs : List Ch) (w : World) (hr : RowV w q (flatT cs)) (hcap : cs.length ≤ cap) :
    Calls Try.prog 11 #[hillV n q cs.length cap] w (RetK w (equalOf n.toNat cs).1 (equalOf n.toNat cs).2) := by
  have hb0 : Below w.heap.size w (w.alloc (.cells #[.int .i64 n, .slice q cs.length cap] 28)) := (Below.refl _ _).alloc (Nat.le_refl _) _
  have c1 := somePlans_any n q cap cs _ (hr.below (Nat.le_refl _) hb0) hcap
  have HB := Lib.hid hb0
  rw [equal_some]
  rcases someS_cases n cs with ⟨h1, h2⟩ | ⟨m, p, ps, rfl, hchs, hp, h1⟩
  · rw [h1] at c1 ⊢
    have hb : ((someS n.toNat cs).2 != 0) = true := by simpa using h2
    generalize (someS n.toNat cs).2 = err at c1 hb h2
    unfold hillV at *
    have C1 := Lib.hid c1
    clear h1 h2 hr hb0 c1
    go_enter Try.func11, Try.ntmps11
    go_wp2_with (go_at_call 15; refine C1.out.mono ?_; rintro e w1 ⟨q1, cc1, vs1, rfl, hvl, hnil, hls, hb1⟩)
    go_ret2
    exact ⟨rfl, HB.out.on hb1⟩
  · have hgood : GoodL cs (p :: ps) := by rw [← hp]; exact goodL_plans hchs
    have hlen : (p :: ps).length ≤ 100000 := by rw [← hp]; have := plansS_len hchs; omega
    rw [h1] at c1 ⊢
    show Calls _ _ _ _ (RetK w ((((p :: ps).filter fun r => costS cs r == leastS cs (p :: ps)).length : Nat) : Int) 0)
    have hne : p :: ps ≠ [] := by simp
    generalize p :: ps = ls at *
    have hle := fun W qp cp vs lo hb hls => leastL_any m q cap cs lo qp cp vs ls W hchs (hr.below (Nat.le_refl _) hb) hls hgood hlen hne
    have hco := fun W (qq : Option Addr) kk l hb hrr hm => costOf_any m q cap cs qq kk l W hchs (hr.below (Nat.le_refl _) hb) hrr (hgood l hm).1 (hgood l hm).2
    generalize leastS cs ls = lst at *
    unfold hillV RetLE at *
    have C1 := Lib.hid c1
    have HLE := Lib.hid hle
    have HCO := Lib.hid hco
    clear h1 hr hb0 c1 hle hco hp hgood hchs hne
    go_enter Try.func11, Try.ntmps11
    go_wp2_with (first
      | (go_at_call 15; refine C1.out.mono ?_; rintro e w1 ⟨q1, cc1, vs1, rfl, hvl, hnil, hls, hb1⟩; have HVL := Lib.hid hvl; clear hvl hnil; obtain ⟨hc1, hf1⟩ := bcell hb1; have hac1 : Below w.heap.size w w1 := HB.out.on hb1; have hz0 : w.heap.size < w1.heap.size := (by have := hb1.size; simp at this; omega))
      | (go_at_call 16; refine (HLE.out w1 q1 cc1 vs1 _ hac1 hls).mono ?_; rintro e w2 ⟨rfl, hb2⟩))
    obtain ⟨d0, d1⟩ : w1.cell? ⟨w.heap.size, 0, none⟩ = some (.int .i64 m) ∧ w1.cell? ⟨w.heap.size, 1, none⟩ = some (.slice q cs.length cap) := ⟨by rw [hc1 _ _ (by simp)]; simp, by rw [hc1 _ _ (by simp)]; simp⟩
    have hac2 := hac1.on hb2
    have hls2 := hls.below (Nat.le_refl _) hb2
    have HLS := Lib.hid hls2
    clear hc1 hf1 hb1 hls hls2
    go_loopw [7, 23] (fun v i wr => ∃ k : Nat, k ≤ ls.length ∧ i = .int .i64 k ∧ v = .int .i64 (((ls.take k).filter fun r => costS cs r == lst).length : Nat) ∧ Below w2.heap.size w2 wr) (fun _ i _ => ls.length - (intOf i).toNat)
    case atStart => exact ⟨0, Nat.zero_le _, rfl, rfl, Below.refl _ _⟩
    case round =>
      obtain ⟨k, hk, rfl, rfl, hbel⟩ := hrel
      by_cases hlt : k < ls.length
      · obtain ⟨v, hv, hlv⟩ := InL.get k HLS.out.2.1 hlt
        obtain ⟨b, off, rfl, hb, hcell⟩ := HLS.out.1.here (k := k) (by rw [HVL.out]; exact hlt)
        have h1 := (hbel.cell (p := ⟨b, off + k, none⟩) hb).trans (hcell k v hv)
        have hst := filter_len_succ (fun r => costS cs r == lst) ls k [] hlt
        have hm := getD_mem ls k [] hlt
        have hbd : ((ls.take k).filter fun r => costS cs r == lst).length ≤ 100000 := Nat.le_trans (List.length_filter_le _ _) (by rw [List.length_take]; omega)
        generalize ls.getD k [] = l at hlv hst hm
        obtain ⟨ql, cl, rfl, hrl, _, _⟩ := hlv
        have hcc := HCO.out wr ql cl l (hac2.on hbel) (hrl.below (Nat.le_refl _) hbel) hm
        generalize costS cs l = x at hcc hst
        generalize ((ls.take k).filter fun r => costS cs r == lst).length = cnt at hst hbd ⊢
        have e0 := (hbel.cell (p := ⟨w.heap.size, 0, none⟩) (Nat.lt_of_lt_of_le hz0 hb2.size)).trans ((hb2.cell (p := ⟨w.heap.size, 0, none⟩) hz0).trans d0)
        have e1 := (hbel.cell (p := ⟨w.heap.size, 1, none⟩) (Nat.lt_of_lt_of_le hz0 hb2.size)).trans ((hb2.cell (p := ⟨w.heap.size, 1, none⟩) hz0).trans d1)
        have hlk : (k : Int) < (ls.length : Int) := by omega
        have hw : IntKind.i64.wrap ((cnt : Int) + 1) = ((cnt + 1 : Nat) : Int) := by rw [IntWalk.i64_in _ ⟨by omega, by omega⟩]; omega
        have HCC := Lib.hid hcc
        have HST := Lib.hid hst
        clear hcc hst hv hcell hrl
        by_cases hx : x = lst
        · have hxb : (x == lst) = true := by simpa using hx
          have HXX := Lib.hid hxb
          go_wp2_with (go_at_call 28; refine HCC.out.mono ?_; rintro e w3 ⟨rfl, hb3⟩)
          refine ⟨⟨k + 1, hlt, by go_num, by rw [HST.out, if_pos HXX.out]; rfl, hbel.on hb3⟩, by simp [intOf]; omega⟩
        · have hxb : (x == lst) = false := by simpa using hx
          have HXX := Lib.hid hxb
          go_wp2_with (go_at_call 28; refine HCC.out.mono ?_; rintro e w3 ⟨rfl, hb3⟩)
          refine ⟨⟨k + 1, hlt, by go_num, by rw [HST.out, if_neg (by rw [HXX.out]; decide)]; rfl, hbel.on hb3⟩, by simp [intOf]; omega⟩
      · obtain rfl : k = ls.length := by omega
        rw [List.take_length]
        go_wp2
        go_ret2
        exact ⟨rfl, hac2.on hbel⟩
end Go.Proofs.Ytlkdkamhebggbaa.drn

/- Package drain, the walks: Most. -/
namespace Go.Proofs.Ytlkdkamhebggbaa.drn
open Go.RowKit
set_option linter.unusedSimpArgs false
set_option linter.unusedVariables false
attribute [local go_sem] neNilL eqNilL
theorem mostS_len (ps : List (List Int)) : mostS ps ≤ ps.length := by
  unfold mostS
  cases h : (List.range (ps.length + 1)).find? fun k => (apartS k ps).isNone with
  | none => exact Nat.zero_le _
  | some k =>
    have hk := List.mem_range.mp (List.mem_of_find?_eq_some h)
    show k ≤ ps.length
    omega

set_option maxRecDepth 100000 in
set_option maxHeartbeats 1000000 in
theorem Most_any (n : Int) (q : Option Addr) (cap : Nat) (cs : List Ch) (w : World) (hr : RowV w q (flatT cs)) (hcap : cs.length ≤ cap) :
    Calls Try.prog 9 #[hillV n q cs.length cap] w (RetK w (mostOf n.toNat cs).1 (mostOf n.toNat cs).2) := by
  have hb0 : Below w.heap.size w (w.alloc (.cells #[.int .i64 n, .slice q cs.length cap] 28)) := (Below.refl _ _).alloc (Nat.le_refl _) _
  have c1 := Check_any n q cap cs _ (hr.below (Nat.le_refl _) hb0) hcap
  have HB := Lib.hid hb0
  by_cases h0 : errD n cs = 0
  · obtain ⟨m, rfl, hchs⟩ := chs_of h0
    have hans : mostOf ((m : Int).toNat) cs = ((mostS (plansS m cs) : Int), 0) := by
      unfold mostOf
      rw [Int.toNat_natCast, if_neg (fun h => h h0)]
    have hpl := fun W hb => plansOf_any m q cap cs W hchs (hr.below (Nat.le_refl _) hb)
    have hlen : (plansS m cs).length ≤ 100000 := by have := plansS_len hchs; omega
    have hg : ∀ l ∈ plansS m cs, l.length ≤ 1000 := fun l hl => (goodL_plans hchs l hl).2
    rw [hans]
    generalize plansS m cs = ls at hpl hlen hg ⊢
    have hml := mostS_len ls
    obtain ⟨hms1, hms2⟩ := mostS_spec ls
    have hfa := fun (j : Nat) (hj : j ≤ ls.length) W lo q c vs h1 h2 h3 => firstApart_any j lo q c vs ls W (by omega) h1 h2 h3 hlen hg
    generalize mostS ls = M at hml hms1 hms2 ⊢
    unfold hillV RetL at *
    rw [h0] at c1
    have C1 := Lib.hid c1
    have HPL := Lib.hid hpl
    have HFA := Lib.hid hfa
    have H1 := Lib.hid hms1
    have H2 := Lib.hid hms2
    clear hans h0 hr hb0 hchs c1 hpl hg hfa hms1 hms2
    go_enter Try.func9, Try.ntmps9
    go_wp2_with (first
      | (go_at_call 17; refine C1.out.mono ?_; rintro e w1 ⟨rfl, hb1⟩; obtain ⟨hc1, hf1⟩ := bcell hb1; have hac1 : Below w.heap.size w w1 := HB.out.on hb1; have hz0 : w.heap.size < w1.heap.size := (by have := hb1.size; simp at this; omega))
      | (go_at_call 18; refine (HPL.out w1 hac1).mono ?_; rintro e w2 ⟨q2, c2, vs, rfl, hvl, hnil, hlsA, hb2, hcap2⟩; have HVL := Lib.hid hvl; have HLS := Lib.hid hlsA; clear hvl hnil hlsA))
    have hac2 := hac1.on hb2
    clear hc1 hf1 hb1
    go_loopw [6] (fun i wr => ∃ k : Nat, k ≤ M ∧ i = .int .i64 k ∧ Below w2.heap.size w2 wr) (fun i _ => M - (intOf i).toNat)
    case atStart => exact ⟨0, Nat.zero_le _, rfl, Below.refl _ _⟩
    case round =>
      obtain ⟨k, hk, rfl, hbel⟩ := hrel
      have hw : IntKind.i64.wrap ((k : Int) + 1) = ((k + 1 : Nat) : Int) := by rw [IntWalk.i64_in _ ⟨by omega, by omega⟩]; omega
      have hcc := HFA.out k (by omega) wr _ q2 c2 vs (Nat.le_trans hb2.size hbel.size) (HLS.out.below (Nat.le_refl _) hbel) hcap2
      by_cases hlt : k < M
      · obtain ⟨l, hl⟩ := Option.isSome_iff_exists.mp (H2.out k hlt)
        unfold FirstA at hcc
        rw [hl] at hcc
        have HCC := Lib.hid hcc
        clear hcc hl
        go_wp2_with (go_at_call 19; refine HCC.out.mono ?_; rintro e w3 ⟨q3, c3, vs3, rfl, hls3, hn3, hc3, hb3⟩; obtain ⟨a3, rfl⟩ : ∃ a, q3 = some a := (by cases q3 with | none => cases hn3 | some a => exact ⟨a, rfl⟩))
        refine ⟨⟨k + 1, hlt, by go_num, hbel.on hb3⟩, by simp [intOf]; omega⟩
      · obtain rfl : k = M := by omega
        unfold FirstA at hcc
        rw [H1.out] at hcc
        have HCC := Lib.hid hcc
        clear hcc
        go_wp2_with (go_at_call 19; refine HCC.out.mono ?_; rintro e w3 ⟨q3, c3, vs3, rfl, hls3, hn3, hc3, hb3⟩; obtain rfl : q3 = none := (by cases q3 with | none => rfl | some a => cases hn3))
        go_ret2
        exact ⟨rfl, hac2.on (hbel.on hb3)⟩
  · have hans : mostOf n.toNat cs = (0, errD n cs) := by
      unfold mostOf
      rw [errD_nat, if_pos h0]
    rw [hans]
    have hb : (errD n cs != 0) = true := by simpa using h0
    generalize errD n cs = err at *
    unfold hillV at *
    have C1 := Lib.hid c1
    clear hr hb0 c1 h0 hans
    go_enter Try.func9, Try.ntmps9
    go_wp2_with (go_at_call 17; refine C1.out.mono ?_; rintro e w1 ⟨rfl, hb1⟩; have hac1 : Below w.heap.size w w1 := HB.out.on hb1)
    go_ret2
    exact ⟨rfl, hac1⟩
end Go.Proofs.Ytlkdkamhebggbaa.drn

