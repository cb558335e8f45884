/- The walks of slices.Grow (at nil) and slices.Concat (of two lists), at galleries; loss, Loss, Known (package seam). -/
import Derived.Test.YtcalipoknbbaaaaClash
import Derived.Lib.AppendZeros
import Derived.Laws.AppendOwnNone
import Derived.Deep.RegionHeld3
namespace Go.Proofs.Ytcalipoknbbaaaa
open Go.RowKit

/-- an empty list of the call's own -/
def GrownG (w : World) (e : Ending) (w' : World) : Prop := ∃ q cap, e = .returned (.slice q 0 cap) ∧ w'.ownsRow w.heap.size 28 3 (.slice q 0 cap) 0 [] ∧ Below w.heap.size w w'

set_option maxRecDepth 100000 in
set_option maxHeartbeats 400000 in
theorem growG_any (n : Nat) (w : World) (hn : n ≤ 1000000) : Calls Try.prog 164 #[.slice none 0 0, .int .i64 n] w (GrownG w) := by
  by_cases h0 : n = 0
  · subst h0
    go_enter Try.func164, Try.ntmps164
    go_wp2
    go_ret
    exact ⟨none, 0, rfl, World.ownsRow_nil _ _ _ _, Below.refl _ _⟩
  · obtain ⟨i0, hi, hz0, hz1, hz2⟩ := info_parts info28
    have hrun := Lib.run_append_nil_zeros (P := Try.prog) w 22 3 22 28 i0 _ .i64 .i64 Try.underlying22 (by kernel_rfl) hi hz0 n (by omega) (by rw [hz1]; omega) (by omega) (by rw [hz2]; omega)
    have hge := grownCap_ge w n 0 28
    have hle := grownCap_le_maxLen w n 0 28 (by unfold maxLen; omega)
    have HRUN := Lib.hid hrun
    have HI := Lib.hid hi
    have HZ0 := Lib.hid hz0
    have HZ1 := Lib.hid hz1
    have HZ2 := Lib.hid hz2
    clear hrun hi hz0 hz1 hz2
    have hpos : (0 : Int) < n := by omega
    go_enter Try.func164, Try.ntmps164
    go_wp2_with (at_builtin; refine Lib.wpList_append_run _ rfl _ _ _ _ rfl _ _ rfl rfl _ _ HRUN.out ?_)
    go_ret
    refine ⟨some ⟨w.heap.size, 0, none⟩, grownCap w n 0 28, rfl, ?_, (Below.refl _ w).drew.alloc (Nat.le_refl _) _⟩
    have := World.ownsRow_made (base := w.heap.size) (e := 28) (size := 3) w.drew (Builtin.zeroCells (Value.agg #[.int .i64 0, .int .i64 0, .int .i64 0]).cells n ++ Builtin.zeroCells (Value.agg #[.int .i64 0, .int .i64 0, .int .i64 0]).cells (grownCap w n 0 28 - n)) (grownCap w n 0 28) (Nat.le_refl _) hle (by
      rw [Array.size_append, size_zeroCells, size_zeroCells, ← Nat.add_mul, Nat.add_sub_cancel' hge]; rfl)
    exact this

theorem flatG_length : ∀ gs : List Gl, (flatG gs).length = gs.length * 3
  | [] => rfl
  | g :: gs => by
    have ih := flatG_length gs
    have e : flatG (g :: gs) = .int .i64 g.1 :: .int .i64 g.2.1 :: .int .i64 g.2.2 :: flatG gs := by simp [flatG]
    rw [e]
    simp [ih]
    omega

theorem flatG_nil_get (j : Nat) : (flatG [])[j]? = none := by simp [flatG]

theorem addr_add_off (b off j : Nat) : (⟨b, off, none⟩ : Addr).add j = ⟨b, off + j, none⟩ := by unfold Addr.add; split <;> simp_all

theorem growG_int (m : Int) (w : World) (h0 : 0 ≤ m) (hm : m ≤ 1000000) : Calls Try.prog 164 #[.slice none 0 0, .int .i64 m] w (GrownG w) := by
  obtain ⟨n, rfl⟩ := Int.eq_ofNat_of_zero_le h0
  exact growG_any n w (by omega)

/-- appending a whole list of galleries to a list of the call's own -/
theorem app_gals (w : World) {ops : Array Oper} {rest : List Oper} {o : Oper} {a : Act} {Q : Exit → Act → World → Prop} (hgd : o.guard = none) (s x : Operand)
    (ho : o.op = .call { callee := .builtin .append, args := #[s, x], argTypes := #[22, 22] }) (base : Nat) (v : Value) (gs xs : List Gl) (hs : a.eval s = v)
    (hown : w.ownsRow base 28 3 v gs.length (flatG gs)) (q : Option Addr) (c : Nat) (hx : a.eval x = .slice q xs.length c) (hq : q = none → c = 0) (hr : RowG w q xs)
    (hl : gs.length + xs.length ≤ 1000000) (hbase : base ≤ w.heap.size)
    (h : ∀ v' w', w'.ownsRow base 28 3 v' (gs ++ xs).length (flatG (gs ++ xs)) → w.grownBy w' v.ownBlock → wpList Try.prog ops Q rest (a.put o.dst v') w') :
    wpList Try.prog ops Q (o :: rest) a w := by
  obtain ⟨i0, hi, hz0, hz1, hz2⟩ := info_parts info28
  have hfl := flatG_length xs
  have happ : flatG (gs ++ xs) = flatG gs ++ flatG xs := by simp [flatG]
  cases q with
  | none =>
    have hx0 : xs = [] := by
      rcases hr with h0 | ⟨b, off, e, _⟩
      · exact h0
      · cases e
    subst hx0
    rw [hq rfl] at hx
    refine wpList_append_own_none hgd s x 22 ho base 28 i0 3 Try.underlying22 hi v gs.length (flatG gs) hs hown hx ?_
    refine h v w ?_ ⟨rfl, rfl, rfl, Nat.le_refl _, fun _ _ _ => rfl⟩
    rw [List.append_nil]
    exact hown
  | some ad =>
    refine wpList_append_own w hgd s x 22 ho base 28 i0 _ 3 24 Try.underlying22 hi hz0 hz1 hz2 rfl (by decide) v gs.length (flatG gs) hs hown ad xs.length c (flatG xs) hx hfl ?_ ?_ (by unfold maxLen; omega) (by omega) hbase ?_
    · intro j u hj
      rcases hr with h0 | ⟨b, off, e, _, hc⟩
      · subst h0
        rw [flatG_nil_get] at hj
        exact absurd hj.symm (Option.some_ne_none u)
      · simp only [Option.some.injEq] at e
        subst e
        have hjl : j < xs.length * 3 := by rw [← hfl]; exact (List.getElem?_eq_some_iff.1 hj).1
        rw [addr_add_off]
        obtain ⟨i, hi'⟩ : ∃ i, j = i * 3 ∨ j = i * 3 + 1 ∨ j = i * 3 + 2 := ⟨j / 3, by omega⟩
        obtain ⟨c1, c2, c3⟩ := hc i (by omega)
        obtain ⟨f1, f2, f3⟩ := flatG_get xs i (by omega)
        rcases hi' with rfl | rfl | rfl
        · rw [f1] at hj; rw [← hj]; exact c1
        · rw [f2] at hj; rw [← hj]; exact c2
        · rw [f3] at hj; rw [← hj]; exact c3
    · intro u hu
      unfold flatG at hu
      obtain ⟨g, _, hg⟩ := List.mem_flatMap.1 hu
      simp at hg
      rcases hg with rfl | rfl | rfl <;> rfl
    · intro v' w' h1 h2 _
      refine h v' w' ?_ h2
      rw [happ, List.length_append]
      exact h1

/-- two lists of galleries, as slices.Concat is handed them -/
def Two2 (w : World) (b : Nat) (q1 q2 : Option Addr) (c1 c2 : Nat) (xs ys : List Gl) : Prop :=
  b < w.heap.size ∧ w.cell? ⟨b, 0, none⟩ = some (.slice q1 xs.length c1) ∧ w.cell? ⟨b, 1, none⟩ = some (.slice q2 ys.length c2) ∧ RowG w q1 xs ∧ RowG w q2 ys ∧ (q1 = none → c1 = 0) ∧ (q2 = none → c2 = 0)
theorem Two2.below {w w' : World} {b : Nat} {q1 q2 : Option Addr} {c1 c2 : Nat} {xs ys : List Gl} (h : Two2 w b q1 q2 c1 c2 xs ys) {N : Nat} (hN : w.heap.size ≤ N) (hb : Below N w w') : Two2 w' b q1 q2 c1 c2 xs ys :=
  ⟨Nat.lt_of_lt_of_le h.1 hb.size, (hb.cell (p := ⟨b, 0, none⟩) (Nat.lt_of_lt_of_le h.1 hN)).trans h.2.1, (hb.cell (p := ⟨b, 1, none⟩) (Nat.lt_of_lt_of_le h.1 hN)).trans h.2.2.1, h.2.2.2.1.below hN hb, h.2.2.2.2.1.below hN hb, h.2.2.2.2.2.1, h.2.2.2.2.2.2⟩

/-- a list of galleries in new memory -/
def OneG (w : World) (xs : List Gl) (e : Ending) (w' : World) : Prop := ∃ q c, e = .returned (.slice q xs.length c) ∧ RowG w' q xs ∧ (q = none → c = 0) ∧ Below w.heap.size w w'

theorem owns_nil_cap {w : World} {base : Nat} {e : TypeId} {size n : Nat} {q : Option Addr} {m c : Nat} {xs : List Value} (h : w.ownsRow base e size (.slice q m c) n xs) : q = none → c = 0 := by
  intro hq
  obtain ⟨_, ⟨h', _⟩ | ⟨g, cap, cur, h', _⟩⟩ := h
  · simp only [Value.slice.injEq] at h'; exact h'.2.2
  · simp only [Value.slice.injEq] at h'; rw [hq] at h'; simp at h'

set_option maxRecDepth 100000 in
set_option maxHeartbeats 1000000 in
theorem concatG_any (b cb : Nat) (q1 q2 : Option Addr) (c1 c2 : Nat) (xs ys : List Gl) (w : World) (h2 : Two2 w b q1 q2 c1 c2 xs ys) (hl : xs.length + ys.length ≤ 1000) :
    Calls Try.prog 144 #[.slice (some ⟨b, 0, none⟩) 2 cb] w (OneG w (xs ++ ys)) := by
  have H2 := Lib.hid h2
  obtain ⟨t1, t2, t3, _⟩ := h2
  go_enter Try.func144, Try.ntmps144
  go_wp2
  go_loop [3, 11] (fun s i => ∃ k : Nat, i = .int .i64 k ∧ ((k = 0 ∧ s = .int .i64 0) ∨ (k = 1 ∧ s = .int .i64 (xs.length : Nat)) ∨ (k = 2 ∧ s = .int .i64 (xs.length + ys.length : Nat)))) (fun _ i => 2 - (intOf i).toNat)
  case atStart => exact ⟨0, rfl, .inl ⟨rfl, rfl⟩⟩
  case round =>
    obtain ⟨k, rfl, ⟨rfl, rfl⟩ | ⟨rfl, rfl⟩ | ⟨rfl, rfl⟩⟩ := hrel
    · go_wp2
      go_round
      case rel => exact ⟨1, rfl, .inr (.inl ⟨rfl, rfl⟩)⟩
      case measure => simp [intOf]
    · go_wp2
      go_round
      case rel => exact ⟨2, rfl, .inr (.inr ⟨rfl, by go_num⟩)⟩
      case measure => simp [intOf]
    · go_wp2_with (go_at_call 164; refine (growG_int _ _ (by omega) (by omega)).mono ?_; rintro e w1 ⟨q, c, rfl, hown, hb⟩)
      have H2' := Lib.hid (H2.out.below (Nat.le_refl _) hb)
      go_loopw [6, 27] (fun v i wr => ∃ k : Nat, i = .int .i64 k ∧ Below w.heap.size w wr ∧ ((k = 0 ∧ wr.ownsRow w.heap.size 28 3 v ([] : List Gl).length (flatG [])) ∨ (k = 1 ∧ wr.ownsRow w.heap.size 28 3 v xs.length (flatG xs)) ∨ (k = 2 ∧ wr.ownsRow w.heap.size 28 3 v (xs ++ ys).length (flatG (xs ++ ys))))) (fun _ i _ => 2 - (intOf i).toNat)
      case atStart => exact ⟨0, rfl, hb, .inl ⟨rfl, hown⟩⟩
      case round =>
        obtain ⟨k, rfl, hbr, hk⟩ := hrel
        have H3 := Lib.hid (H2.out.below (Nat.le_refl _) hbr)
        obtain ⟨s1, s2, s3, _⟩ := H3.out
        rcases hk with ⟨rfl, hv⟩ | ⟨rfl, hv⟩ | ⟨rfl, hv⟩
        · have HV := Lib.hid hv
          clear hv hown
          go_wp2_with (at_builtin; refine app_gals _ rfl (.tmp 31) (.tmp 32) rfl w.heap.size _ [] xs rfl HV.out q1 c1 rfl H3.out.2.2.2.2.2.1 H3.out.2.2.2.1 (by simp; omega) hbr.size ?_; intro v' w' hown' hgrow)
          have hbn : Below w.heap.size w w' := hbr.trans (grown_below HV.out hbr.size hgrow)
          go_roundw
          case rel => exact ⟨1, rfl, hbn, .inr (.inl ⟨rfl, hown'⟩)⟩
          case measure => simp [intOf]
        · have HV := Lib.hid hv
          clear hv hown
          go_wp2_with (at_builtin; refine app_gals _ rfl (.tmp 31) (.tmp 32) rfl w.heap.size _ xs ys rfl HV.out q2 c2 rfl H3.out.2.2.2.2.2.2 H3.out.2.2.2.2.1 (by omega) hbr.size ?_; intro v' w' hown' hgrow)
          have hbn : Below w.heap.size w w' := hbr.trans (grown_below HV.out hbr.size hgrow)
          go_roundw
          case rel => exact ⟨2, rfl, hbn, .inr (.inr ⟨rfl, hown'⟩)⟩
          case measure => simp [intOf]
        · obtain ⟨q3, c3, rfl, hr3⟩ := rowG_of_owns hv
          have hnil := owns_nil_cap hv
          have HN := Lib.hid hnil
          have HR3 := Lib.hid hr3
          clear hv hown hnil hr3
          go_wp2
          go_ret
          exact ⟨q3, c3, rfl, HR3.out, HN.out, hbr⟩

def oppG (g : Gl) : Gl := (-g.1, -g.2.1, -g.2.2 - 1)
/-- how many places a gallery more takes away -/
def lossOf (n : Nat) (gs : List Gl) (g : Gl) : Nat := cnt n (gs ++ [oppG g])

theorem okG_opp {g : Gl} (h : okG g) : okG (oppG g) := by
  obtain ⟨⟨h1, h2⟩, ⟨h3, h4⟩⟩ := h
  unfold oppG
  exact ⟨⟨by simp only; omega, by simp only; omega⟩, ⟨by simp only; omega, by simp only; omega⟩⟩

theorem count_at (n : Nat) (q : Option Addr) (cap : Nat) (gs : List Gl) (w : World) (hn : n ≤ 1000) (hg : ∀ g ∈ gs, okG g) (hr : RowG w q gs) (hl : gs.length ≤ 1000000) {k : Nat} (hk : gs.length = k) :
    Calls Try.prog 103 #[.int .i64 n, .slice q k cap] w fun e w' => e = .returned (.int .i64 (cnt n gs : Nat)) ∧ Below w.heap.size w w' := by
  subst hk
  exact count_any n q cap gs w hn hg hr hl

theorem two2_new (W : World) (q : Option Addr) (cap : Nat) (gs : List Gl) (g : Gl) (hr : RowG W q gs) (hq : q = none → cap = 0) :
    Two2 ((W.alloc (.cells #[.int .i64 (-g.1), .int .i64 (-g.2.1), .int .i64 (-g.2.2 - 1)] 28)).alloc (.cells #[.slice q gs.length cap, .slice (some ⟨W.heap.size, 0, none⟩) 1 1] 22)) (W.heap.size + 1) q (some ⟨W.heap.size, 0, none⟩) cap 1 gs [oppG g] := by
  have hb : Below W.heap.size W ((W.alloc (.cells #[.int .i64 (-g.1), .int .i64 (-g.2.1), .int .i64 (-g.2.2 - 1)] 28)).alloc (.cells #[.slice q gs.length cap, .slice (some ⟨W.heap.size, 0, none⟩) 1 1] 22)) :=
    ((Below.refl _ _).alloc (Nat.le_refl _) _).alloc (by simp) _
  refine ⟨by simp, by simp, by simp, hr.below (Nat.le_refl _) hb, .inr ⟨W.heap.size, 0, rfl, by simp; omega, ?_⟩, hq, by simp⟩
  intro i hi
  obtain rfl : i = 0 := by simp at hi; omega
  simp [oppG]

/-- the boxes of a hill and of a gallery -/
def Boxes2 (B : Nat) (v0 v1 u0 u1 u2 : Value) (W : World) : Prop :=
  B + 1 < W.heap.size ∧ W.cell? ⟨B, 0, none⟩ = some v0 ∧ W.cell? ⟨B, 1, none⟩ = some v1 ∧ W.cell? ⟨B + 1, 0, none⟩ = some u0 ∧ W.cell? ⟨B + 1, 1, none⟩ = some u1 ∧ W.cell? ⟨B + 1, 2, none⟩ = some u2
theorem Boxes2.below {B : Nat} {v0 v1 u0 u1 u2 : Value} {W W' : World} (h : Boxes2 B v0 v1 u0 u1 u2 W) {N : Nat} (hN : W.heap.size ≤ N) (hb : Below N W W') : Boxes2 B v0 v1 u0 u1 u2 W' := by
  obtain ⟨h0, h1, h2, h3, h4, h5⟩ := h
  exact ⟨Nat.lt_of_lt_of_le h0 hb.size, (hb.cell (p := ⟨B, 0, none⟩) (show B < N by omega)).trans h1, (hb.cell (p := ⟨B, 1, none⟩) (show B < N by omega)).trans h2,
    (hb.cell (p := ⟨B + 1, 0, none⟩) (show B + 1 < N by omega)).trans h3, (hb.cell (p := ⟨B + 1, 1, none⟩) (show B + 1 < N by omega)).trans h4, (hb.cell (p := ⟨B + 1, 2, none⟩) (show B + 1 < N by omega)).trans h5⟩
theorem below_two (W : World) (o o' : Obj) : Below W.heap.size W ((W.alloc o).alloc o') := ((Below.refl _ _).alloc (Nat.le_refl _) _).alloc (by simp) _

set_option maxRecDepth 100000 in
set_option maxHeartbeats 400000 in
theorem loss_any (n : Nat) (q : Option Addr) (cap : Nat) (gs : List Gl) (g : Gl) (w : World) (hn : n ≤ 1000) (hr : RowG w q gs) (hq : q = none → cap = 0) (hgs : ∀ g ∈ gs, okG g) (hg : okG g) (hc : small 1000 g.2.2) (hl : gs.length ≤ 900) :
    Calls Try.prog 105 #[.agg #[.int .i64 n, .slice q gs.length cap], .agg #[.int .i64 g.1, .int .i64 g.2.1, .int .i64 g.2.2]] w fun e w' => e = .returned (.int .i64 (lossOf n gs g : Nat)) ∧ Below w.heap.size w w' := by
  have hb0 : Below w.heap.size w ((w.alloc (.cells #[.int .i64 n, .slice q gs.length cap] 24)).alloc (.cells #[.int .i64 g.1, .int .i64 g.2.1, .int .i64 g.2.2] 28)).drew := (((Below.refl _ _).alloc (Nat.le_refl _) _).alloc (by simp) _).drew
  have hgs' : ∀ x ∈ gs ++ [oppG g], okG x := by
    intro x hx
    rcases List.mem_append.1 hx with hx | hx
    · exact hgs x hx
    · obtain rfl : x = oppG g := by simpa using hx
      exact okG_opp hg
  have c144 := fun W (h : RowG W q gs) => concatG_any (W.heap.size + 1) 2 q (some ⟨W.heap.size, 0, none⟩) cap 1 gs [oppG g] _ (two2_new W q cap gs g h hq) (by simp; omega)
  have c103 := fun W q' c' (h : RowG W q' (gs ++ [oppG g])) => count_at n q' c' (gs ++ [oppG g]) W hn hgs' h (by simp; omega) (k := gs.length + 1) (by simp)
  have C144 := Lib.hid c144
  have C103 := Lib.hid c103
  have HR0 := Lib.hid (hr.below (Nat.le_refl _) hb0)
  have HB0 := Lib.hid hb0
  clear c144 c103 hgs' hb0
  have hs0 : Boxes2 w.heap.size (.int .i64 n) (.slice q gs.length cap) (.int .i64 g.1) (.int .i64 g.2.1) (.int .i64 g.2.2) ((w.alloc (.cells #[.int .i64 n, .slice q gs.length cap] 24)).alloc (.cells #[.int .i64 g.1, .int .i64 g.2.1, .int .i64 g.2.2] 28)).drew := ⟨by simp, by simp, by simp, by simp, by simp, by simp⟩
  have HS0 := Lib.hid hs0
  clear hs0
  go_enter Try.func105, Try.ntmps105
  go_wp2
  go_region_held3 (fun W => W.cell? ⟨w.heap.size, 0, none⟩ = some (.int .i64 n) ∧ W.cell? ⟨w.heap.size, 1, none⟩ = some (.slice q gs.length cap) ∧ W.cell? ⟨w.heap.size + 1, 0, none⟩ = some (.int .i64 g.1) ∧ W.cell? ⟨w.heap.size + 1, 1, none⟩ = some (.int .i64 g.2.1) ∧ W.cell? ⟨w.heap.size + 1, 2, none⟩ = some (.int .i64 g.2.2)) (go_keep)
    (first
    | (go_at_call 101; refine (opposite_any g _ hg.1 hg.2 hc).mono ?_; rintro e w1 ⟨rfl, hb1⟩; have S1 := HS0.out.below (Nat.le_refl _) hb1; obtain ⟨_, a1, a2, a3, a4, a5⟩ := S1)
    | (go_at_call 144; refine (C144.out w1 (HR0.out.below (Nat.le_refl _) hb1)).mono ?_; rintro e w2 ⟨q2, c2, rfl, hr2, _, hb2⟩; have S2 := ((HS0.out.below (Nat.le_refl _) hb1).below (Nat.le_refl _) (below_two w1 _ _)).below (Nat.le_refl _) hb2; obtain ⟨_, b1, b2, b3, b4, b5⟩ := S2)
    | (go_at_call 103; refine (C103.out w2 q2 c2 hr2).mono ?_; rintro e w3 ⟨rfl, hb3⟩; have S3 := (((HS0.out.below (Nat.le_refl _) hb1).below (Nat.le_refl _) (below_two w1 _ _)).below (Nat.le_refl _) hb2).below (Nat.le_refl _) hb3; obtain ⟨_, d1, d2, d3, d4, d5⟩ := S3))
  all_goals
    go_wp2
    go_ret
    refine ⟨ret_int rfl, ?_⟩
    have k1 := HB0.out.trans (hb1.mono HB0.out.size)
    have k2 := al2 k1 k1.size hb2 (by have := k1.size; simp; omega)
    exact k2.trans (hb3.mono k2.size)
end Go.Proofs.Ytcalipoknbbaaaa
