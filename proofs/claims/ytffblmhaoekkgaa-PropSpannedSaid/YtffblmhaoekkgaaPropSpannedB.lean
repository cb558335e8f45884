/- PropSpanned: the law's body. -/
import Derived.Test.YtffblmhaoekkgaaPrpAK
import Derived.Test.YtffblmhaoekkgaaKW
import Derived.Deep.CutRange
import Derived.Deep.CutBlock
namespace Go.Proofs.Ytffblmhaoekkgaa.prp
open Go.RowKit
set_option linter.unusedSimpArgs false
set_option linter.unusedVariables false
open Go.Proofs.Ytffblmhaoekkgaa.ev (works_any)

theorem Hc.goN {w W W' : World} {rows : List (Option Addr × List Value)} {boxes : List (Nat × List Int)} {cells : List (Nat × Value)} (h : Hc w W rows boxes cells) {W2 : World} (h1 : Below W.heap.size W W2) : Hc w W2 rows boxes cells := h.go h1
theorem Frs.one {W : World} {bs : List (Nat × Fr)} (h : Frs W bs) (a b : Int) (t : TypeId) :
    Frs (W.alloc (.cells #[.int .i64 a, .int .i64 b] t)) ((W.heap.size, (a, b)) :: bs) ∧ Below W.heap.size W (W.alloc (.cells #[.int .i64 a, .int .i64 b] t)) := by
  have c0 := Cell2.new W W.heap.size rfl (.int .i64 a) (.int .i64 b) t
  have hb0 : Below W.heap.size W (W.alloc (.cells #[.int .i64 a, .int .i64 b] t)) := (Below.refl _ _).alloc (Nat.le_refl _) _
  exact ⟨(h.go hb0).add c0, hb0⟩
theorem fr1_ok (e : Int) (h : -50000000000 ≤ e ∧ e ≤ 50000000000) : FrOk (e, 1) := ⟨h.1, h.2, by show (0 : Int) < 1; omega, by show (1 : Int) ≤ 500; omega, by simp⟩
theorem five {xs : List Int} (h : xs.length = 5) : ∃ a b c d e, xs = [a, b, c, d, e] := by
  match xs, h with
  | [a, b, c, d, e], _ => exact ⟨a, b, c, d, e, rfl⟩

/-- new variables of two cells -/
def Al (N : Nat) (W : World) (bs : List (Nat × Fr)) : Prop := (bs.map fun p => p.1).Nodup ∧ ∀ p ∈ bs, N ≤ p.1 ∧ Cell2 W p.1 (.int .i64 p.2.1) (.int .i64 p.2.2)
/-- where a drawn region stands: new variables, and rows -/
structure Jn (W0 W : World) (rows : List (Option Addr × List Value)) (bs : List (Nat × Fr)) : Prop where
  bel : Below W0.heap.size W0 W
  al : Al W0.heap.size W bs
  row : ∀ p ∈ rows, RowV W p.1 p.2
section
variable {W0 W W' : World} {rows : List (Option Addr × List Value)} {bs : List (Nat × Fr)}
theorem Jn.go (h : Jn W0 W rows bs) (hb : Below W.heap.size W W') : Jn W0 W' rows bs :=
  ⟨h.bel.on hb, ⟨h.al.1, fun B hB => ⟨(h.al.2 B hB).1, (h.al.2 B hB).2.below (h.al.2 B hB).2.1 hb⟩⟩, fun p hp => (h.row p hp).below (Nat.le_refl _) hb⟩
theorem Jn.drew (h : Jn W0 W rows bs) : Jn W0 W.drew rows bs := h.go (Below.refl _ _).drew
theorem Jn.add (h : Jn W0 W rows bs) {q : Option Addr} {vs : List Value} (hr : RowV W q vs) : Jn W0 W ((q, vs) :: rows) bs :=
  ⟨h.bel, h.al, fun p hp => by
    rcases List.mem_cons.1 hp with rfl | hp
    · exact hr
    · exact h.row p hp⟩
theorem Jn.new (h : Jn W0 W rows bs) {x y : Int} : Jn W0 (W.alloc (.cells #[.int .i64 x, .int .i64 y] 51)) rows ((W.heap.size, (x, y)) :: bs) := by
  have hb : Below W.heap.size W (W.alloc (.cells #[.int .i64 x, .int .i64 y] 51)) := (Below.refl _ _).alloc (Nat.le_refl _) _
  have h2 := h.go hb
  refine ⟨h2.bel, ⟨List.nodup_cons.2 ⟨fun hm => ?_, h.al.1⟩, fun B hB => ?_⟩, h2.row⟩
  · obtain ⟨p, hp, e⟩ := List.mem_map.1 hm
    have := (h.al.2 p hp).2.1
    rw [e] at this
    exact Nat.lt_irrefl _ this
  · rcases List.mem_cons.1 hB with rfl | hB
    · exact ⟨h.bel.size, Cell2.new W _ rfl _ _ 51⟩
    · exact h2.al.2 B hB
theorem Jn.newB (h : Jn W0 W rows bs) {x y : Int} {B : Nat} (hB : B = W.heap.size) : Jn W0 (W.alloc (.cells #[.int .i64 x, .int .i64 y] 51)) rows ((B, (x, y)) :: bs) := by subst hB; exact h.new
theorem Jn.set {B : Nat} {x : Fr} (h : Jn W0 W rows ((B, x) :: bs)) {a b : Int} : Jn W0 ((W.setCell ⟨B, 0, none⟩ (.int .i64 a)).setCell ⟨B, 1, none⟩ (.int .i64 b)) [] ((B, (a, b)) :: bs) := by
  have hB := h.al.2 (B, x) (by simp)
  have hn := List.nodup_cons.1 h.al.1
  refine ⟨(h.bel.setCell (p := ⟨B, 0, none⟩) hB.1 _).setCell (p := ⟨B, 1, none⟩) hB.1 _, ⟨h.al.1, fun p hp => ?_⟩, fun p hp => by simp at hp⟩
  rcases List.mem_cons.1 hp with rfl | hp
  · exact ⟨hB.1, hB.2.set _ _⟩
  · have h2 := h.al.2 p (List.mem_cons_of_mem _ hp)
    refine ⟨h2.1, h2.2.other (fun e => hn.1 ?_) _ _⟩
    rw [← e]; exact List.mem_map.2 ⟨p, hp, rfl⟩
theorem Jn.swap {p p' : Nat × Fr} (h : Jn W0 W rows (p :: p' :: bs)) : Jn W0 W rows (p' :: p :: bs) :=
  ⟨h.bel, ⟨show (p'.1 :: p.1 :: bs.map fun p => p.1).Nodup from (List.Perm.swap p'.1 p.1 (bs.map fun p => p.1)).nodup (show (p.1 :: p'.1 :: bs.map fun p => p.1).Nodup from h.al.1), fun r hr => h.al.2 r (by
    simp only [List.mem_cons] at hr ⊢
    rcases hr with hr | hr | hr
    · exact .inr (.inl hr)
    · exact .inl hr
    · exact .inr (.inr hr))⟩, h.row⟩
theorem Jn.one {p : Nat × Fr} (h : Jn W0 W rows (p :: bs)) : Cell2 W p.1 (.int .i64 p.2.1) (.int .i64 p.2.2) := (h.al.2 p (by simp)).2
theorem Jn.ne {p p' : Nat × Fr} (h : Jn W0 W rows (p :: p' :: bs)) : p.1 ≠ p'.1 := fun e => (List.nodup_cons.1 h.al.1).1 (by simp [e])
theorem Jn.fin1 {B : Nat} {a b : Int} (h : Jn W0 W rows [(B, (a, b))]) : Hid (Cell2 W B (.int .i64 a) (.int .i64 b)) ∧ Hid (Below W0.heap.size W0 W) := ⟨Lib.hid (h.al.2 (B, (a, b)) (by simp)).2, Lib.hid h.bel⟩
/-- what a region leaves -/
def JnEnd (W0 W : World) (BL BM : Nat) (a b : Int) : Prop := BL ≠ BM ∧ W0.heap.size ≤ BL ∧ W0.heap.size ≤ BM ∧ Hid (Cell2 W BL (.int .i64 a) (.int .i64 b)) ∧ Hid (Cell2 W BM (.int .i64 a) (.int .i64 b)) ∧ Hid (Below W0.heap.size W0 W)
theorem Jn.fin {BL BM : Nat} {a b : Int} (h : Jn W0 W rows [(BL, (a, b)), (BM, (a, b))]) : JnEnd W0 W BL BM a b := by
  have h1 := h.al.2 (BL, (a, b)) (by simp)
  have h2 := h.al.2 (BM, (a, b)) (by simp)
  have hn := List.nodup_cons.1 h.al.1
  exact ⟨fun e => hn.1 (by simp [e]), h1.1, h2.1, Lib.hid h1.2, Lib.hid h2.2, Lib.hid h.bel⟩
end
theorem frac2 (a b : Int) (w : World) : Calls Try.prog 32 #[.int .i64 a, .int .i64 b] w fun e w' => e = .returned (.agg #[.int .i64 a, .int .i64 b]) ∧ Below w.heap.size w w' := frac_any a b w
set_option maxRecDepth 100000 in
set_option maxHeartbeats 40000000 in
theorem PropSpanned_any (xs ys : List Int) (hxl : xs.length = 21) (hxo : ∀ x ∈ xs, 0 ≤ x ∧ x ≤ 255) (hyl : ys.length = 5) (hyo : ∀ x ∈ ys, 0 ≤ x ∧ x ≤ 255) (w : World) :
    Calls Try.prog 4 #[.agg (flatU xs).toArray, .agg (flatU ys).toArray] w fun e w' => e = .returned (.bool true) ∧ Below w.heap.size w w' := by
  have hx0 := hxo _ (getD_mem xs 0 0 (by omega))
  obtain ⟨n, hn⟩ : ∃ n : Nat, (n : Int) = 1 + xs.getD 0 0 % 5 := ⟨(1 + xs.getD 0 0 % 5).toNat, by omega⟩
  have n1 : 1 ≤ n := by omega
  have n5 : n ≤ 5 := by omega
  have hE := made_err xs hxo hxl n n1 n5
  have CM := Lib.hid (fun W => made_any xs n W hxl hxo hn)
  have hlen := madeTo_length xs n
  generalize hl : madeTo xs n = l at *
  have hok := (errP_ok hE).2.2
  have HE := Lib.hid hE
  have HOK := Lib.hid hok
  have HYO := Lib.hid hyo
  subst hlen
  have hH := Hc.of (Here.start2 w xs ys 25 26)
  have HXL := Lib.hid hxl
  have HYL := Lib.hid hyl
  clear hl hE hok hyo hx0 hn hxo hxl hyl
  go_enter Try.func4, Try.ntmps4
  go_upto_region 1 with fail
  generalize ((w.alloc (.cells (flatU xs).toArray 25)).alloc (.cells (flatU ys).toArray 26)) = W0 at *
  have HH := Lib.hid hH
  clear hH
  go_upto_region 2 with (first
    | (refine wpList_loadH xs HXL.out _ (HH.out.b (B := w.heap.size) (by simp)) (.tmp 2) rfl rfl rfl ?_)
    | (go_at_call 12; refine (CM.out _).mono ?_; rintro e W1 ⟨q, c, rfl, hr, hq, hc, hb⟩))
  obtain ⟨bq, oq, rfl, _, _⟩ := rowS_at hr (k := 0) (by omega) (Nat.le_refl _) (Below.refl _ _)
  have HH1 := Lib.hid ((HH.out.go hb).add hr)
  have hqs : ∀ a, (some ⟨bq, oq, none⟩ : Option Addr) = some a → a.block < W1.heap.size := fun a ha => (hq a ha).2
  have A0 : Below W1.heap.size W1 (W1.alloc (.cells #[.slice (some ⟨bq, oq, none⟩) l.length c] 27)) := (Below.refl _ _).alloc (Nat.le_refl _) _
  have HH2 := Lib.hid ((HH1.out.go A0).addC (SliceAt.new W1 (.slice (some ⟨bq, oq, none⟩) l.length c) 27))
  have hz2 : (W1.alloc (.cells #[.slice (some ⟨bq, oq, none⟩) l.length c] 27)).heap.size = W1.heap.size + 1 := by simp
  have HQS := Lib.hid hqs
  have HCP := Lib.hid hc
  clear hr hb hq hc A0 HH CM HH1 hqs
  generalize (W1.alloc (.cells #[.slice (some ⟨bq, oq, none⟩) l.length c] 27)) = W2 at *
  generalize hBP : W1.heap.size = BP at *
  have hlc := (HH2.out.c (B := BP) (v := .slice (some ⟨bq, oq, none⟩) l.length c) (by simp)).2
  have hs1 := Stands_any (some ⟨bq, oq, none⟩) c l W2 (HH2.out.r (by simp)) (by omega)
  have e1 : standsOf l = (standsS l, 0) := by unfold standsOf; rw [if_neg (by simpa using HE.out)]
  rw [e1, ← upS_all l] at hs1
  have HS1 := Lib.hid hs1
  clear hs1 e1
  go_upto_region 3 with (go_at_call 14; refine HS1.out.mono ?_; rintro e W3 ⟨rfl, hb3⟩)
  have HH3 := Lib.hid ((HH2.out.go hb3).sub (rows' := [((some ⟨bq, oq, none⟩), flatS l)]) (boxes' := [(w.heap.size, xs), (w.heap.size + 1, ys)]) (cells' := [(BP, .slice (some ⟨bq, oq, none⟩) l.length c)]) (by simp) (by simp) (by simp))
  have hlc := (HH3.out.c (B := BP) (v := .slice (some ⟨bq, oq, none⟩) l.length c) (by simp)).2
  clear hb3 HS1 HH2
  go_wp2
  go_loopw [8, 30] (fun v i wr => ∃ k : Nat, k ≤ l.length ∧ i = .int .i64 k ∧ v = .bool (upS l k) ∧ Hid (Hc w wr [((some ⟨bq, oq, none⟩), flatS l)] [(w.heap.size, xs), (w.heap.size + 1, ys)] [(BP, .slice (some ⟨bq, oq, none⟩) l.length c)])) (fun _ i _ => l.length - (intOf i).toNat)
  case atStart => exact ⟨0, Nat.zero_le _, rfl, rfl, HH3⟩
  case round =>
    obtain ⟨k, hk, rfl, rfl, HHr⟩ := hrel
    by_cases hlt : k < l.length
    · have hb0 : Bnd l (truthTo l [0, 0, 0, 0, 0] l.length) := truth_bnd HOK.out [0, 0, 0, 0, 0] (by intro x hx; simp at hx; omega) (by simp; omega)
      have hbB : Bnd l (truthTo l ys l.length) := truth_bnd HOK.out ys HYO.out (by have := HYL.out; omega)
      have fo1 := low_ok HOK.out n5 hlt
      have fo2 := high_ok HOK.out n5 hlt
      have lf1 := leF_not (low_le HOK.out n5 hlt hbB)
      have lf2 := leF_not (high_ge HOK.out n5 hlt hbB)
      have oc := cenF_ok HOK.out n5 hbB hlt
      have hst := Ext.start (lv := k) hb0
      have HB0 := Lib.hid hb0
      have HBB := Lib.hid hbB
      have hsp := fun W (h : Hc w W [((some ⟨bq, oq, none⟩), flatS l)] [(w.heap.size, xs), (w.heap.size + 1, ys)] [(wr.heap.size, .int .i64 k), (BP, .slice (some ⟨bq, oq, none⟩) l.length c)]) => Span_ok (some ⟨bq, oq, none⟩) c l k W (h.r (by simp)) HE.out hlt HCP.out
      have ht0 := fun W (h : RowV W (some ⟨bq, oq, none⟩) (flatS l)) => truth_any (some ⟨bq, oq, none⟩) c l [0, 0, 0, 0, 0] W h n5 HOK.out rfl (by intro x hx; simp at hx; omega)
      have htB := fun W (h : RowV W (some ⟨bq, oq, none⟩) (flatS l)) => truth_any (some ⟨bq, oq, none⟩) c l ys W h n5 HOK.out HYL.out HYO.out
      have hc0 := fun q2 c2 W (h : RowV W (some ⟨bq, oq, none⟩) (flatS l)) h2 h3 h4 => span1_any (some ⟨bq, oq, none⟩) c l q2 c2 (truthTo l [0, 0, 0, 0, 0] l.length) k wr.heap.size BP W h h2 n5 HOK.out hb0 hlt h3 h4
      have hcB := fun q2 c2 W (h : RowV W (some ⟨bq, oq, none⟩) (flatS l)) h2 h3 h4 => span1_any (some ⟨bq, oq, none⟩) c l q2 c2 (truthTo l ys l.length) k wr.heap.size BP W h h2 n5 HOK.out hbB hlt h3 h4
      have hcr := fun BL BM N x y W (hr : RowV W (some ⟨bq, oq, none⟩) (flatS l)) h1 h2 B3 h3 he hL hM hne nL nM hN b1 b2 b3 hq => corners3_any (some ⟨bq, oq, none⟩) c l k wr.heap.size BP B3 BL BM N x y W hr n5 HOK.out hlt h1 h2 h3 he hL hM hne nL nM hN b1 b2 b3 hq
      obtain ⟨u0, u1, u2, u3, u4, hys⟩ := five HYL.out
      subst hys
      have ty0 : (truthTo l [0, 0, 0, 0, 0] l.length).length = l.length := truthTo_length _ _ _
      have tyB : (truthTo l [u0, u1, u2, u3, u4] l.length).length = l.length := truthTo_length _ _ _
      obtain ⟨R, A1, hu1, hu2, hu3, hR⟩ : ∃ (R : Int) (A1 : Bool), upS l (k + 1) = (A1 && !belF (R, 1) (highS l k)) ∧ (k = 0 → R = 0 ∧ A1 = upS l k) ∧ (k ≠ 0 → R = (l.getD (k - 1) zs).at_ + (l.getD (k - 1) zs).half ∧ A1 = (upS l k && !belF (lowS l k) ((l.getD (k - 1) zs).at_ - (l.getD (k - 1) zs).half, 1))) ∧ -1000000000 ≤ R ∧ R ≤ 1000000000 := by
        by_cases h0 : k = 0
        · subst h0
          exact ⟨0, upS l 0, upS_0 HOK.out n5 hlt, fun _ => ⟨rfl, rfl⟩, fun h => absurd rfl h, by omega⟩
        · have hs := HOK.out _ (getD_mem l (k - 1) zs (by omega))
          unfold okS at hs
          exact ⟨_, _, upS_1 HOK.out n5 h0 hlt, fun h => absurd h h0, fun _ => ⟨rfl, rfl⟩, by omega⟩
      generalize truthTo l [0, 0, 0, 0, 0] l.length = ws0 at *
      generalize truthTo l [u0, u1, u2, u3, u4] l.length = wsB at *
      have hT0 : ∀ W (h : RowV W (some ⟨bq, oq, none⟩) (flatS l)), Calls Try.prog 17 #[.slice (some ⟨bq, oq, none⟩) l.length c, .agg #[.int .u8 0, .int .u8 0, .int .u8 0, .int .u8 0, .int .u8 0]] W fun e w' => ∃ q3 c3, e = .returned (.slice q3 l.length c3) ∧ RowV w' q3 (flatI ws0) ∧ Below W.heap.size W w' := fun W h => (ht0 W h).mono fun e w' ⟨q, c, a, b, _, _, d⟩ => ⟨q, c, by rw [← ty0]; exact a, b, d⟩
      have hTB : ∀ W (h : RowV W (some ⟨bq, oq, none⟩) (flatS l)), Calls Try.prog 17 #[.slice (some ⟨bq, oq, none⟩) l.length c, .agg #[.int .u8 u0, .int .u8 u1, .int .u8 u2, .int .u8 u3, .int .u8 u4]] W fun e w' => ∃ q3 c3, e = .returned (.slice q3 l.length c3) ∧ RowV w' q3 (flatI wsB) ∧ Below W.heap.size W w' := fun W h => (htB W h).mono fun e w' ⟨q, c, a, b, _, _, d⟩ => ⟨q, c, by rw [← tyB]; exact a, b, d⟩
      generalize lowS l k = lo at *
      generalize highS l k = hi at *
      generalize cenF l ws0 k = c0 at *
      generalize cenF l wsB k = cB at *
      obtain ⟨a1, a2⟩ := lo
      obtain ⟨b1, b2⟩ := hi
      obtain ⟨e1, e2⟩ := c0
      obtain ⟨d1, d2⟩ := cB
      unfold frP frV at hsp hc0 hcB
      simp only at hsp hc0 hcB
      have SP := Lib.hid hsp
      have T0 := Lib.hid hT0
      have TB := Lib.hid hTB
      have C0 := Lib.hid hc0
      have CB := Lib.hid hcB
      have CR := Lib.hid hcr
      have O1 := Lib.hid fo1
      have O2 := Lib.hid fo2
      have O3 := Lib.hid oc
      have O4 := Lib.hid (fr1_ok R ⟨by omega, by omega⟩)
      have L1 := Lib.hid lf1
      have L2 := Lib.hid lf2
      have ST := Lib.hid hst
      have U1 := Lib.hid hu1
      have U2 := Lib.hid hu2
      have U3 := Lib.hid hu3
      clear hb0 hbB fo1 fo2 lf1 lf2 oc hst hsp ht0 htB hc0 hcB hcr ty0 tyB hT0 hTB hu1 hu2 hu3 HB0 HBB
      generalize upS l k = A at *
      go_upto_region 7 with fail
      have A0 : Below wr.heap.size wr (wr.alloc (.cells #[.int .i64 k] 3)) := (Below.refl _ _).alloc (Nat.le_refl _) _
      have HH := Lib.hid ((HHr.out.go A0).addC (SliceAt.new wr (.int .i64 k) 3))
      have hz9 : wr.heap.size < (wr.alloc (.cells #[.int .i64 k] 3)).heap.size := by simp
      generalize (wr.alloc (.cells #[.int .i64 k] 3)) = W1 at *
      generalize hB9 : wr.heap.size = B9 at *
      clear A0
      have hlc := (HH.out.c (B := BP) (v := .slice (some ⟨bq, oq, none⟩) l.length c) (by simp)).2
      have hkc := (HH.out.c (B := B9) (v := .int .i64 k) (by simp)).2
      go_upto_region 8 with (go_at_call 26; refine (SP.out _ HH.out).mono ?_; rintro e W2 ⟨rfl, hb2⟩; replace HH := Lib.hid (HH.out.go hb2); clear hb2)
      have ht := (Frs.nil W2).two a1 a2 b1 b2 51
      have HF := Lib.hid ht.1
      replace HH := Lib.hid (HH.out.go ht.2)
      clear ht SP hlc hkc
      generalize hB10 : W2.heap.size = B10 at *
      generalize ((W2.alloc (.cells #[.int .i64 a1, .int .i64 a2] 51)).alloc (.cells #[.int .i64 b1, .int .i64 b2] 51)) = W3 at *
      obtain ⟨y0, y1, y2⟩ := HF.out (B10, (a1, a2)) (by simp)
      obtain ⟨y3, y4, y5⟩ := HF.out (B10 + 1, (b1, b2)) (by simp)
      go_upto_region 10 with (go_at_call 27; refine (fair2 _ _ (by first | exact O1 | exact O2) _).mono ?_; rintro e W ⟨rfl, hb⟩; replace HF := Lib.hid (HF.out.go hb); replace HH := Lib.hid (HH.out.go hb); clear hb; obtain ⟨y0, y1, y2⟩ := HF.out (B10, (a1, a2)) (by simp); obtain ⟨y3, y4, y5⟩ := HF.out (B10 + 1, (b1, b2)) (by simp))
      go_upto_region 11 with fail
      have A0 : Below W.heap.size W (W.alloc (.cells #[.func (.func 28) #[] #[.pointer (some ⟨B9, 0, none⟩), .pointer (some ⟨BP, 0, none⟩)]] 56)) := (Below.refl _ _).alloc (Nat.le_refl _) _
      replace HH := Lib.hid ((HH.out.go A0).addC (SliceAt.new W (.func (.func 28) #[] #[.pointer (some ⟨B9, 0, none⟩), .pointer (some ⟨BP, 0, none⟩)]) 56))
      replace HF := Lib.hid (HF.out.go A0)
      clear A0 y0 y1 y2 y3 y4 y5
      generalize hB13 : W.heap.size = B13 at *
      generalize (W.alloc (.cells #[.func (.func 28) #[] #[.pointer (some ⟨B9, 0, none⟩), .pointer (some ⟨BP, 0, none⟩)]] 56)) = W6 at *
      have H6 := HH
      have F6 := HF
      have HJ := Lib.hid (show Jn W6 W6 [] [] from ⟨Below.refl _ _, ⟨List.nodup_nil, fun B hB => by simp at hB⟩, fun B hB => by simp at hB⟩)
      have T0J : Hid (∀ W rows bs, Jn W6 W rows bs → Calls Try.prog 17 #[.slice (some ⟨bq, oq, none⟩) l.length c, .agg #[.int .u8 0, .int .u8 0, .int .u8 0, .int .u8 0, .int .u8 0]] W fun e w' => ∃ q2 c2, e = .returned (.slice q2 l.length c2) ∧ Jn W6 w' ((q2, flatI ws0) :: rows) bs) := Lib.hid fun W rows bs h => (T0.out W ((H6.out.go h.bel).r (by simp))).mono fun e w' ⟨q2, c2, he, hr, hb⟩ => ⟨q2, c2, he, (h.go hb).add hr⟩
      have C0J : Hid (∀ q2 c2 W rows bs, Jn W6 W rows bs → (q2, flatI ws0) ∈ rows → Calls Try.prog 28 #[.slice q2 l.length c2, .pointer (some ⟨B9, 0, none⟩), .pointer (some ⟨BP, 0, none⟩)] W fun e w' => e = .returned (.agg #[.int .i64 e1, .int .i64 e2]) ∧ Jn W6 w' rows bs) := Lib.hid fun q2 c2 W rows bs h hm2 => (C0.out q2 c2 W ((H6.out.go h.bel).r (by simp)) (h.row _ hm2) ((H6.out.go h.bel).c (by simp)) ((H6.out.go h.bel).c (by simp))).mono fun e w' ⟨he, hb⟩ => ⟨he, h.go hb⟩
      have SF : Hid (∀ W rows bs, Jn W6 W rows bs → W.cell? ⟨B13, 0, none⟩ = some (.func (.func 28) #[] #[.pointer (some ⟨B9, 0, none⟩), .pointer (some ⟨BP, 0, none⟩)]) ∧ W.cell? ⟨BP, 0, none⟩ = some (.slice (some ⟨bq, oq, none⟩) l.length c)) := Lib.hid fun W rows bs h => ⟨((H6.out.go h.bel).c (by simp)).2, ((H6.out.go h.bel).c (by simp)).2⟩
      clear T0 HH HF
      go_cut [14, 15] from 53 to 62 (fun v v' wx => ∃ BL BM, v = .pointer (some ⟨BL, 0, none⟩) ∧ v' = .pointer (some ⟨BM, 0, none⟩) ∧ JnEnd W6 wx BL BM e1 e2)
      case first =>
        as_aux_lemma =>
          go_region_held3 (fun W => W.cell? ⟨B13, 0, none⟩ = some (.func (.func 28) #[] #[.pointer (some ⟨B9, 0, none⟩), .pointer (some ⟨BP, 0, none⟩)]) ∧ W.cell? ⟨BP, 0, none⟩ = some (.slice (some ⟨bq, oq, none⟩) l.length c)) (first | with_reducible exact SF.out _ _ _ HJ.out | with_reducible exact SF.out _ _ _ HJ.out.drew | with_reducible exact SF.out _ _ _ HJ.out.new | with_reducible exact SF.out _ _ _ HJ.out.new.new | with_reducible exact SF.out _ _ _ HJ.out.new.drew | with_reducible exact SF.out _ _ _ HJ.out.new.new.drew | with_reducible exact SF.out _ _ _ HJ.out.set | with_reducible exact SF.out _ _ _ HJ.out.swap.set | with_reducible exact SF.out _ _ _ HJ.out.set.swap.set | with_reducible exact SF.out _ _ _ HJ.out.swap.set.swap.set | with_reducible exact SF.out _ _ _ HJ.out.new.set | with_reducible exact SF.out _ _ _ HJ.out.set.new | with_reducible exact SF.out _ _ _ HJ.out.new.swap.set | go_keep)
            (first
            | (go_at_call 17; refine (T0J.out _ _ _ (by first | with_reducible exact HJ.out | with_reducible exact HJ.out.drew | with_reducible exact HJ.out.new | with_reducible exact HJ.out.new.new | with_reducible exact HJ.out.new.drew | with_reducible exact HJ.out.new.new.drew)).mono ?_; rintro e W ⟨q2, c2, rfl, HJ2⟩; (try simp only [World.size_alloc, World.size_drew] at HJ2); replace HJ := Lib.hid HJ2; clear HJ2; (first | (obtain ⟨k0, k1, k2, k3, k4⟩ := HJ.out.one; dsimp only at k0 k1 k2 k3 k4; obtain ⟨m0, m1, m2, m3, m4⟩ := HJ.out.swap.one; dsimp only at m0 m1 m2 m3 m4; have nn := HJ.out.ne; have nm := HJ.out.swap.ne; dsimp only at nn nm; try simp only [World.size_alloc, World.size_drew] at k0 k1 k2 k3 k4 m0 m1 m2 m3 m4 nn nm) | (obtain ⟨k0, k1, k2, k3, k4⟩ := HJ.out.one; dsimp only at k0 k1 k2 k3 k4; have nn := Nat.ne_of_lt k0; have nm := Nat.ne_of_gt k0; try simp only [World.size_alloc, World.size_drew] at k0 k1 k2 k3 k4 nn nm) | skip))
            | (go_at_call 28; refine (C0J.out _ _ _ _ _ (by first | with_reducible exact HJ.out | with_reducible exact HJ.out.drew | with_reducible exact HJ.out.new | with_reducible exact HJ.out.new.new | with_reducible exact HJ.out.new.drew | with_reducible exact HJ.out.new.new.drew) (by simp)).mono ?_; rintro e W ⟨rfl, HJ2⟩; (try simp only [World.size_alloc, World.size_drew] at HJ2); replace HJ := Lib.hid HJ2; clear HJ2; (first | (obtain ⟨k0, k1, k2, k3, k4⟩ := HJ.out.one; dsimp only at k0 k1 k2 k3 k4; obtain ⟨m0, m1, m2, m3, m4⟩ := HJ.out.swap.one; dsimp only at m0 m1 m2 m3 m4; have nn := HJ.out.ne; have nm := HJ.out.swap.ne; dsimp only at nn nm; try simp only [World.size_alloc, World.size_drew] at k0 k1 k2 k3 k4 m0 m1 m2 m3 m4 nn nm) | (obtain ⟨k0, k1, k2, k3, k4⟩ := HJ.out.one; dsimp only at k0 k1 k2 k3 k4; have nn := Nat.ne_of_lt k0; have nm := Nat.ne_of_gt k0; try simp only [World.size_alloc, World.size_drew] at k0 k1 k2 k3 k4 nn nm) | skip)))
          all_goals go_wp2
          all_goals go_meet
          all_goals refine ⟨_, _, rfl, rfl, ?_⟩
          all_goals first | with_reducible exact ((HJ.out.set (a := e1) (b := e2)).swap.set (a := e1) (b := e2)).swap.fin | with_reducible exact ((HJ.out.swap.set (a := e1) (b := e2)).swap.set (a := e1) (b := e2)).swap.fin | with_reducible exact ((HJ.out.set (a := e1) (b := e2)).newB (x := e1) (y := e2) (by simp)).fin | with_reducible exact ((HJ.out.set (a := e1) (b := e2)).newB (x := e1) (y := e2) (by simp)).swap.fin | with_reducible exact ((HJ.out.newB (x := e1) (y := e2) rfl).newB (x := e1) (y := e2) (World.size_alloc _ _).symm).fin | with_reducible exact ((HJ.out.newB (x := e1) (y := e2) rfl).newB (x := e1) (y := e2) (World.size_alloc _ _).symm).swap.fin
      case rest =>
      obtain ⟨BL, BM, rfl, rfl, hne, nL, nM, HL, HM, HB⟩ := hcut
      rename_i wc
      clear T0J C0J SF HJ C0
      have hB13 := (H6.out.c (B := B13) (v := .func (.func 28) #[] #[.pointer (some ⟨B9, 0, none⟩), .pointer (some ⟨BP, 0, none⟩)]) (by simp)).1
      have hB9l := (H6.out.c (B := B9) (v := .int .i64 k) (by simp)).1
      have hBPl := (H6.out.c (B := BP) (v := .slice (some ⟨bq, oq, none⟩) l.length c) (by simp)).1
      have HH7 := Lib.hid (H6.out.go HB.out)
      have hlc := (HH7.out.c (B := BP) (v := .slice (some ⟨bq, oq, none⟩) l.length c) (by simp)).2
      have hcc := CR.out BL BM W6.heap.size (e1, e2) (e1, e2) wc (HH7.out.r (by simp)) (HH7.out.c (by simp)) (HH7.out.c (by simp)) B13 (HH7.out.c (by simp)) ST.out HL.out HM.out hne nL nM HB.out.size hB9l hBPl hB13 (fun a ha => by have := HQS.out a ha; omega)
      have HCC := Lib.hid hcc
      clear hcc CR ST HL HM
      go_upto_region 13 with (go_at_call 21; refine HCC.out.mono ?_; rintro e W8 ⟨rfl, hcl, hcm, hb8⟩)
      have HB8 := Lib.hid (HB.out.trans hb8)
      have H8 := Lib.hid (H6.out.go HB8.out)
      have F8 := Lib.hid (((F6.out.go HB8.out).add hcm).add hcl)
      clear hcl hcm hb8 HCC HH7 hlc HB
      have HJ := Lib.hid (show Jn W8 W8 [] [] from ⟨Below.refl _ _, ⟨List.nodup_nil, fun B hB => by simp at hB⟩, fun B hB => by simp at hB⟩)
      have TBJ : Hid (∀ W rows bs, Jn W8 W rows bs → Calls Try.prog 17 #[.slice (some ⟨bq, oq, none⟩) l.length c, .agg #[.int .u8 u0, .int .u8 u1, .int .u8 u2, .int .u8 u3, .int .u8 u4]] W fun e w' => ∃ q2 c2, e = .returned (.slice q2 l.length c2) ∧ Jn W8 w' ((q2, flatI wsB) :: rows) bs) := Lib.hid fun W rows bs h => (TB.out W ((H8.out.go h.bel).r (by simp))).mono fun e w' ⟨q2, c2, he, hr, hb⟩ => ⟨q2, c2, he, (h.go hb).add hr⟩
      have CBJ : Hid (∀ q2 c2 W rows bs, Jn W8 W rows bs → (q2, flatI wsB) ∈ rows → Calls Try.prog 28 #[.slice q2 l.length c2, .pointer (some ⟨B9, 0, none⟩), .pointer (some ⟨BP, 0, none⟩)] W fun e w' => e = .returned (.agg #[.int .i64 d1, .int .i64 d2]) ∧ Jn W8 w' rows bs) := Lib.hid fun q2 c2 W rows bs h hm2 => (CB.out q2 c2 W ((H8.out.go h.bel).r (by simp)) (h.row _ hm2) ((H8.out.go h.bel).c (by simp)) ((H8.out.go h.bel).c (by simp))).mono fun e w' ⟨he, hb⟩ => ⟨he, h.go hb⟩
      have SB : Hid (∀ W rows bs, Jn W8 W rows bs → (W.cell? ⟨B13, 0, none⟩ = some (.func (.func 28) #[] #[.pointer (some ⟨B9, 0, none⟩), .pointer (some ⟨BP, 0, none⟩)]) ∧ W.cell? ⟨BP, 0, none⟩ = some (.slice (some ⟨bq, oq, none⟩) l.length c)) ∧ W.cell? ⟨w.heap.size + 1, 0, none⟩ = some (.int .u8 u0) ∧ W.cell? ⟨w.heap.size + 1, 1, none⟩ = some (.int .u8 u1) ∧ W.cell? ⟨w.heap.size + 1, 2, none⟩ = some (.int .u8 u2) ∧ W.cell? ⟨w.heap.size + 1, 3, none⟩ = some (.int .u8 u3) ∧ W.cell? ⟨w.heap.size + 1, 4, none⟩ = some (.int .u8 u4)) := Lib.hid fun W rows bs h => by
        have hbx := (H8.out.go h.bel).b (B := w.heap.size + 1) (xs := [u0, u1, u2, u3, u4]) (by simp)
        exact ⟨⟨((H8.out.go h.bel).c (by simp)).2, ((H8.out.go h.bel).c (by simp)).2⟩, hbx.cell 0 (by simp), hbx.cell 1 (by simp), hbx.cell 2 (by simp), hbx.cell 3 (by simp), hbx.cell 4 (by simp)⟩
      clear TB CB HB8
      go_cut [16] from 66 to 70 (fun v wx => ∃ BC, v = .pointer (some ⟨BC, 0, none⟩) ∧ Hid (Cell2 wx BC (.int .i64 d1) (.int .i64 d2)) ∧ Hid (Below W8.heap.size W8 wx))
      case first =>
        go_region_held3 (fun W => (W.cell? ⟨B13, 0, none⟩ = some (.func (.func 28) #[] #[.pointer (some ⟨B9, 0, none⟩), .pointer (some ⟨BP, 0, none⟩)]) ∧ W.cell? ⟨BP, 0, none⟩ = some (.slice (some ⟨bq, oq, none⟩) l.length c)) ∧ W.cell? ⟨w.heap.size + 1, 0, none⟩ = some (.int .u8 u0) ∧ W.cell? ⟨w.heap.size + 1, 1, none⟩ = some (.int .u8 u1) ∧ W.cell? ⟨w.heap.size + 1, 2, none⟩ = some (.int .u8 u2) ∧ W.cell? ⟨w.heap.size + 1, 3, none⟩ = some (.int .u8 u3) ∧ W.cell? ⟨w.heap.size + 1, 4, none⟩ = some (.int .u8 u4)) (first | with_reducible exact SB.out _ _ _ HJ.out | with_reducible exact SB.out _ _ _ HJ.out.drew | with_reducible exact SB.out _ _ _ HJ.out.new | with_reducible exact SB.out _ _ _ HJ.out.new.drew | with_reducible exact SB.out _ _ _ HJ.out.set | with_reducible exact SB.out _ _ _ HJ.out.new.set | go_keep)
          (first
          | (go_at_call 17; refine (TBJ.out _ _ _ (by first | with_reducible exact HJ.out | with_reducible exact HJ.out.drew | with_reducible exact HJ.out.new | with_reducible exact HJ.out.new.drew)).mono ?_; rintro e W ⟨q2, c2, rfl, HJ2⟩; (try simp only [World.size_alloc, World.size_drew] at HJ2); replace HJ := Lib.hid HJ2; clear HJ2; (first | (obtain ⟨k0, k1, k2, k3, k4⟩ := HJ.out.one; dsimp only at k0 k1 k2 k3 k4; have nn := Nat.ne_of_lt k0; have nm := Nat.ne_of_gt k0; try simp only [World.size_alloc, World.size_drew] at k0 k1 k2 k3 k4 nn nm) | skip))
          | (go_at_call 28; refine (CBJ.out _ _ _ _ _ (by first | with_reducible exact HJ.out | with_reducible exact HJ.out.drew | with_reducible exact HJ.out.new | with_reducible exact HJ.out.new.drew) (by simp)).mono ?_; rintro e W ⟨rfl, HJ2⟩; (try simp only [World.size_alloc, World.size_drew] at HJ2); replace HJ := Lib.hid HJ2; clear HJ2; (first | (obtain ⟨k0, k1, k2, k3, k4⟩ := HJ.out.one; dsimp only at k0 k1 k2 k3 k4; have nn := Nat.ne_of_lt k0; have nm := Nat.ne_of_gt k0; try simp only [World.size_alloc, World.size_drew] at k0 k1 k2 k3 k4 nn nm) | skip)))
        all_goals go_wp2
        all_goals go_meet
        all_goals first | with_reducible exact ⟨_, rfl, (HJ.out.newB (by simp)).fin1⟩ | with_reducible exact ⟨_, rfl, HJ.out.set.fin1⟩
      case rest =>
      obtain ⟨BC, rfl, HC, HB⟩ := hcut
      rename_i wd
      have HH := Lib.hid (H8.out.go HB.out)
      have HF := Lib.hid ((F8.out.go HB.out).add HC.out)
      clear TBJ CBJ SB HJ H8 F8 H6 F6 HC HB hne nL nM
      obtain ⟨y0, y1, y2⟩ := HF.out (B10, (a1, a2)) (by simp)
      obtain ⟨y3, y4, y5⟩ := HF.out (B10 + 1, (b1, b2)) (by simp)
      obtain ⟨y6, y7, y8⟩ := HF.out (BL, (a1, a2)) (by simp)
      obtain ⟨y9, ya, yb⟩ := HF.out (BM, (b1, b2)) (by simp)
      obtain ⟨yc, yd, ye⟩ := HF.out (BC, (d1, d2)) (by simp)
      go_upto_region 16 with (go_at_call 31; refine (belowV _ _ _ _ _ (by first | exact O2 | exact O3) (by first | exact O1 | exact O3) (by first | exact L1 | exact L2) _).mono ?_; rintro e W ⟨rfl, hb⟩; replace HF := Lib.hid (HF.out.go hb); replace HH := Lib.hid (HH.out.go hb); clear hb; obtain ⟨y0, y1, y2⟩ := HF.out (B10, (a1, a2)) (by simp); obtain ⟨y3, y4, y5⟩ := HF.out (B10 + 1, (b1, b2)) (by simp); obtain ⟨y6, y7, y8⟩ := HF.out (BL, (a1, a2)) (by simp); obtain ⟨y9, ya, yb⟩ := HF.out (BM, (b1, b2)) (by simp); obtain ⟨yc, yd, ye⟩ := HF.out (BC, (d1, d2)) (by simp))
      clear L1 L2 O3
      go_upto_region 17 with (go_at_call 32; refine (frac2 _ _ _).mono ?_; rintro e W10 ⟨rfl, hb⟩; replace HF := Lib.hid (HF.out.go hb); replace HH := Lib.hid (HH.out.go hb); clear hb)
      have HJ0 := Lib.hid (show Jn W10 W10 [] [] from ⟨Below.refl _ _, ⟨List.nodup_nil, fun B hB => by simp at hB⟩, fun B hB => by simp at hB⟩)
      have HJ := Lib.hid (HJ0.out.new (x := 0) (y := 1))
      clear HJ0 y0 y1 y2 y3 y4 y5 y6 y7 y8 y9 ya yb yc yd ye
      generalize hB17 : W10.heap.size = B17 at *
      generalize (W10.alloc (.cells #[.int .i64 0, .int .i64 1] 51)) = W11 at *
      clear hB17
      have hkc := ((HH.out.go HJ.out.bel).c (B := B9) (v := .int .i64 k) (by simp)).2
      have hlc := ((HH.out.go HJ.out.bel).c (B := BP) (v := .slice (some ⟨bq, oq, none⟩) l.length c) (by simp)).2
      obtain ⟨k0, k1, k2, k3, k4⟩ := HJ.out.one
      dsimp only at k0 k1 k2 k3 k4
      go_upto_if 91 with fail
      go_cut [8] from 91 to 125 (fun v wx => v = .bool A1 ∧ Hid (Jn W10 wx [] [(B17, (R, 1))]))
      case first =>
        by_cases h0 : k = 0
        · obtain ⟨hR0, hA1⟩ := U2.out h0
          have h1 : ¬ 0 < k := by omega
          have h2 : ¬ (0 : Int) < (k : Int) := by omega
          have HR0 := Lib.hid hR0
          have HA1 := Lib.hid hA1
          clear h0 hR0 hA1
          go_wp2
          go_meet
          case rel => exact ⟨by rw [HA1.out], by rw [HR0.out]; exact HJ⟩
        · obtain ⟨hR1, hA1⟩ := U3.out h0
          have h1 : 0 < k := by omega
          have h2 : (0 : Int) < (k : Int) := by omega
          have hs := HOK.out _ (getD_mem l (k - 1) zs (by omega))
          have hrw := fun W rows bs (h : Jn W10 W rows bs) => rowS_at (HH.out.r (q := (some ⟨bq, oq, none⟩)) (vs := flatS l) (by simp)) (show k - 1 < l.length by omega) (Nat.le_refl _) h.bel
          have HHx := HH
          generalize (l.getD (k - 1) zs) = g at *
          unfold okS at hs
          have SG : Hid (∀ W rows bs, Jn W10 W rows bs → (W.cell? ⟨BP, 0, none⟩ = some (.slice (some ⟨bq, oq, none⟩) l.length c) ∧ W.cell? ⟨B9, 0, none⟩ = some (.int .i64 k)) ∧ (W.cell? ⟨bq, oq + (k - 1) * 4, none⟩ = some (.int .i64 g.half) ∧ W.cell? ⟨bq, oq + (k - 1) * 4 + 1, none⟩ = some (.int .i64 g.at_)) ∧ W.cell? ⟨B10, 0, none⟩ = some (.int .i64 a1) ∧ W.cell? ⟨B10, 1, none⟩ = some (.int .i64 a2)) := Lib.hid fun W rows bs h => by
            obtain ⟨b', o', e, _, g1, g2, _, _⟩ := hrw W rows bs h
            injection e with e
            injection e with e1 e2 e3
            subst e1 e2
            exact ⟨⟨((HHx.out.go h.bel).c (by simp)).2, ((HHx.out.go h.bel).c (by simp)).2⟩, ⟨g1, g2⟩, ((HF.out.go h.bel) (B10, (a1, a2)) (by simp)).2⟩
          have w4 : IntKind.i64.wrap ((k : Int) - 1) = ((k - 1 : Nat) : Int) := by rw [IntWalk.i64_in _ ⟨by omega, by omega⟩]; omega
          have w4' : wrap64 ((k : Int) - 1) = ((k - 1 : Nat) : Int) := by rw [IntWalk.wrap64_in _ ⟨by omega, by omega⟩]; omega
          have w5 : IntKind.i64.wrap (g.at_ + g.half) = g.at_ + g.half := IntWalk.i64_in _ ⟨by omega, by omega⟩
          have w6 : IntKind.i64.wrap (g.at_ - g.half) = g.at_ - g.half := IntWalk.i64_in _ ⟨by omega, by omega⟩
          have o5 := fr1_ok (g.at_ - g.half) ⟨by omega, by omega⟩
          have O5 := Lib.hid o5
          have j0 : (0 : Int) ≤ ((k - 1 : Nat) : Int) := by omega
          have j1 : ((k - 1 : Nat) : Int) < (l.length : Int) := by omega
          have HR1 := Lib.hid hR1
          have HA1 := Lib.hid hA1
          clear h0 hR1 hA1 hs hrw o5
          go_upto_region 18 with fail
          go_region_held3 (fun W => (W.cell? ⟨BP, 0, none⟩ = some (.slice (some ⟨bq, oq, none⟩) l.length c) ∧ W.cell? ⟨B9, 0, none⟩ = some (.int .i64 k)) ∧ (W.cell? ⟨bq, oq + (k - 1) * 4, none⟩ = some (.int .i64 g.half) ∧ W.cell? ⟨bq, oq + (k - 1) * 4 + 1, none⟩ = some (.int .i64 g.at_)) ∧ W.cell? ⟨B10, 0, none⟩ = some (.int .i64 a1) ∧ W.cell? ⟨B10, 1, none⟩ = some (.int .i64 a2)) (first | with_reducible exact SG.out _ _ _ HJ.out | with_reducible exact SG.out _ _ _ HJ.out.drew | with_reducible exact SG.out _ _ _ HJ.out.set | with_reducible exact SG.out _ _ _ HJ.out.set.drew | go_keep)
            (first
            | (go_at_call 32; refine (frac2 _ _ _).mono ?_; rintro e W ⟨rfl, hb⟩; replace HJ := Lib.hid (HJ.out.go (by first | exact hb | exact ((Below.refl _ _).drew).on hb)); clear hb; obtain ⟨k0, k1, k2, k3, k4⟩ := HJ.out.one; dsimp only at k0 k1 k2 k3 k4)
            | fail)
          replace HJ := Lib.hid (HJ.out.set (a := g.at_ + g.half) (b := 1))
          generalize ((W.setCell ⟨B17, 0, none⟩ (.int .i64 (g.at_ + g.half))).setCell ⟨B17, 1, none⟩ (.int .i64 1)) = W12 at *
          clear k0 k1 k2 k3 k4
          go_upto_region 19 with fail
          obtain ⟨v1, hv1⟩ : ∃ v, belF (a1, a2) (g.at_ - g.half, 1) = v := ⟨_, rfl⟩
          have V1 := Lib.hid hv1
          have HA2 : Hid (A1 = (A && !v1)) := Lib.hid (by rw [HA1.out, hv1])
          clear hv1 HA1
          cases A
          · go_region
            all_goals go_wp2
            all_goals go_meet
            all_goals exact ⟨by rw [HA2.out]; rfl, by rw [HR1.out]; exact Lib.hid HJ.out.drew⟩
          · go_region_held3 (fun W => (W.cell? ⟨BP, 0, none⟩ = some (.slice (some ⟨bq, oq, none⟩) l.length c) ∧ W.cell? ⟨B9, 0, none⟩ = some (.int .i64 k)) ∧ (W.cell? ⟨bq, oq + (k - 1) * 4, none⟩ = some (.int .i64 g.half) ∧ W.cell? ⟨bq, oq + (k - 1) * 4 + 1, none⟩ = some (.int .i64 g.at_)) ∧ W.cell? ⟨B10, 0, none⟩ = some (.int .i64 a1) ∧ W.cell? ⟨B10, 1, none⟩ = some (.int .i64 a2)) (first | with_reducible exact SG.out _ _ _ HJ.out | with_reducible exact SG.out _ _ _ HJ.out.drew | with_reducible exact SG.out _ _ _ HJ.out.set | with_reducible exact SG.out _ _ _ HJ.out.set.drew | go_keep)
              (first
              | (go_at_call 32; refine (frac2 _ _ _).mono ?_; rintro e W ⟨rfl, hb⟩; replace HJ := Lib.hid (HJ.out.go (by first | exact hb | exact ((Below.refl _ _).drew).on hb)); clear hb; obtain ⟨k0, k1, k2, k3, k4⟩ := HJ.out.one; dsimp only at k0 k1 k2 k3 k4)
              | (go_at_call 31; refine (belowV _ _ _ _ _ (by exact O1) (by exact O5) (by exact V1) _).mono ?_; rintro e W ⟨rfl, hb⟩; replace HJ := Lib.hid (HJ.out.go (by first | exact hb | exact ((Below.refl _ _).drew).on hb)); clear hb; obtain ⟨k0, k1, k2, k3, k4⟩ := HJ.out.one; dsimp only at k0 k1 k2 k3 k4))
            all_goals go_wp2
            all_goals go_meet
            all_goals exact ⟨by rw [HA2.out]; simp, by rw [HR1.out]; exact HJ⟩
      case rest =>
      obtain ⟨rfl, HJ2⟩ := hcut
      rename_i we
      have F2 := Lib.hid (HF.out.go HJ2.out.bel)
      replace HH := Lib.hid (HH.out.go HJ2.out.bel)
      obtain ⟨k0, k1, k2, k3, k4⟩ := HJ2.out.one
      dsimp only at k0 k1 k2
      obtain ⟨y3, y4, y5⟩ := F2.out (B10 + 1, (b1, b2)) (by simp)
      obtain ⟨v2, hv2⟩ : ∃ v, belF (R, 1) (b1, b2) = v := ⟨_, rfl⟩
      have V2 := Lib.hid hv2
      have HU : Hid (upS l (k + 1) = (A1 && !v2)) := Lib.hid (by rw [U1.out, hv2])
      clear hv2 U1 U2 U3 HF F2 HJ HJ2 k3 k4 O1
      cases A1
      · go_wp2
        go_roundw
        case rel => exact ⟨k + 1, hlt, by go_num, by rw [HU.out]; rfl, Lib.hid (HH.out.sub (by simp) (by simp) (by simp))⟩
        case measure => simp [intOf]; omega
      · go_wp2_with (go_at_call 31; refine (belowV _ _ _ _ _ (by exact O4) (by exact O2) (by exact V2) _).mono ?_; rintro e W ⟨rfl, hb⟩; replace HH := Lib.hid (HH.out.go hb); clear hb)
        go_roundw
        case rel => exact ⟨k + 1, hlt, by go_num, by rw [HU.out]; simp, Lib.hid (HH.out.sub (by simp) (by simp) (by simp))⟩
        case measure => simp [intOf]; omega
    · obtain rfl : k = l.length := by omega
      have hlc := (HHr.out.c (B := BP) (v := .slice (some ⟨bq, oq, none⟩) l.length c) (by simp)).2
      have hsn := Span_no (some ⟨bq, oq, none⟩) c l l.length wr (HHr.out.r (by simp)) (by omega) (by rw [place_of HE.out]; simp)
      have hpe : placeErr l (l.length : Int) = 2 := by rw [place_of HE.out, if_pos (by omega)]
      rw [hpe] at hsn
      unfold frV at hsn
      have HSN := Lib.hid hsn
      clear hsn hpe
      generalize upS l l.length = X at *
      go_wp2_with (first
        | (go_at_call 26; refine HSN.out.mono ?_; rintro e W8 ⟨rfl, hb8⟩)
        | (go_at_call 25; refine (works_any _).mono ?_; rintro e W9 ⟨rfl, hb9⟩))
      go_ret
      exact ⟨rfl, ((HHr.out.bel.on hb8).on ((Frs.nil W8).two 0 0 0 0 51).2).on hb9⟩
end Go.Proofs.Ytffblmhaoekkgaa.prp
