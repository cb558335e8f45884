/- fits, left and some (helpers of the law). -/
import Derived.Test.YtcalipoknbbaaaaLaw3
import Derived.Test.YtcalipoknbbaaaaLaw4
namespace Go.Proofs.Ytcalipoknbbaaaa
open Go.RowKit

set_option maxHeartbeats 400000 in
theorem fits_any (g : Gl) (p : Pl) (w : World) (hp : okP p) (hg : okG g) :
    Calls Try.prog 78 #[.agg #[.int .i64 g.1, .int .i64 g.2.1, .int .i64 g.2.2], .agg #[.int .i64 p.1, .int .i64 p.2]] w fun e w' => e = .returned (.bool (agr g p)) ∧ Below w.heap.size w w' := by
  obtain ⟨x, y⟩ := p
  obtain ⟨a, b, c⟩ := g
  go_enter Try.func78, Try.ntmps78
  go_wp2
  go_ret
  refine ⟨ret_bool ?_, ((Below.refl _ _).alloc (Nat.le_refl _) _).alloc (by simp) _⟩
  show decide (_ ≤ _) = _
  rw [wrap_val hp.1 hp.2 hg.1 hg.2]
  rfl

set_option maxHeartbeats 400000 in
theorem notFits_any (B : Nat) (p : Pl) (g : Gl) (w : World) (hp : okP p) (hg : okG g) (hB : PlaceAt w B p) :
    Calls Try.prog 134 #[.agg #[.int .i64 g.1, .int .i64 g.2.1, .int .i64 g.2.2], .pointer (some ⟨B, 0, none⟩)] w fun e w' => e = .returned (.bool (!agr g p)) ∧ Below w.heap.size w w' := by
  obtain ⟨h1, h2, h3⟩ := hB
  go_enter Try.func134, Try.ntmps134
  go_wp2_with (go_at_call 78; refine (fits_any g p _ hp hg).mono ?_; rintro e w' ⟨rfl, hb⟩)
  go_ret
  exact ⟨rfl, ((Below.refl _ _).alloc (Nat.le_refl _) _).trans (hb.mono (by simp))⟩

set_option maxHeartbeats 400000 in
theorem indexL_any (B : Nat) (pt : Pl) (q : Option Addr) (cap : Nat) (gs : List Gl) (w : World) (hp : okP pt) (hg : ∀ g ∈ gs, okG g) (hB : PlaceAt w B pt) (hr : RowG w q gs) (hl : gs.length ≤ 1000000) :
    Calls Try.prog 151 #[.slice q gs.length cap, .func (.func 134) #[] #[.pointer (some ⟨B, 0, none⟩)]] w fun e w' => e = .returned (.int .i64 (firstIdx (fun g => !agr g pt) gs)) ∧ Below w.heap.size w w' := by
  go_enter Try.func151, Try.ntmps151
  go_wp2
  go_loopw [8] (fun i wr => ∃ k : Nat, k ≤ gs.length ∧ i = .int .i64 k ∧ AllYes (fun g => agr g pt) gs k ∧ Below w.heap.size w wr) (fun i _ => gs.length - (intOf i).toNat)
  case atStart => exact ⟨0, Nat.zero_le _, rfl, rfl, Below.refl _ _⟩
  case round =>
    obtain ⟨k, hk, rfl, hall, hbel⟩ := hrel
    by_cases hlt : k < gs.length
    · obtain ⟨b, off, rfl, hb, h1, h2, h3⟩ := hr.at hlt (Nat.le_refl _) hbel
      have hgk := hg _ (getD_mem gs k (0, 0, 0) hlt)
      have hst := hall.step hlt (0, 0, 0)
      have hBk := hB.below (Nat.le_refl _) hbel
      generalize gs.getD k (0, 0, 0) = g at h1 h2 h3 hgk hst
      go_wp2_with (go_at_call 134; refine (notFits_any B pt g _ hp hgk hBk).mono ?_; rintro e w' ⟨rfl, hb'⟩)
      · have hf : agr g pt = false := by simpa using (by assumption : (!agr g pt) = true)
        go_ret
        exact ⟨ret_int (hst.2 hf).symm, hbel.trans (hb'.mono hbel.size)⟩
      · have hf : agr g pt = true := by simpa using (by assumption : (!agr g pt) = false)
        go_roundw
        case rel => exact ⟨k + 1, hlt, by go_num, hst.1 hf, hbel.trans (hb'.mono hbel.size)⟩
        case measure => simp [intOf]; omega
    · obtain rfl : k = gs.length := by omega
      go_wp2
      go_ret
      exact ⟨ret_int hall.all.symm, hbel⟩

set_option maxHeartbeats 400000 in
theorem containsL_any (B : Nat) (pt : Pl) (q : Option Addr) (cap : Nat) (gs : List Gl) (w : World) (hp : okP pt) (hg : ∀ g ∈ gs, okG g) (hB : PlaceAt w B pt) (hr : RowG w q gs) (hl : gs.length ≤ 1000000) :
    Calls Try.prog 133 #[.slice q gs.length cap, .func (.func 134) #[] #[.pointer (some ⟨B, 0, none⟩)]] w fun e w' => e = .returned (.bool (!agrAll gs pt)) ∧ Below w.heap.size w w' := by
  go_enter Try.func133, Try.ntmps133
  go_wp2_with (go_at_call 151; refine (indexL_any B pt q cap gs _ hp hg hB hr hl).mono ?_; rintro e w' ⟨rfl, hb⟩)
  go_ret
  exact ⟨ret_bool (by rw [← agrAll_eq, Bool.not_not]), hb⟩

set_option maxRecDepth 100000 in
set_option maxHeartbeats 1000000 in
theorem left_any (n : Nat) (q : Option Addr) (cap : Nat) (gs : List Gl) (w : World) (hn : n ≤ 7) (hg : ∀ g ∈ gs, okG g) (hr : RowG w q gs) (hl : gs.length ≤ 1000000) :
    Calls Try.prog 64 #[.int .i64 n, .slice q gs.length cap] w (OneP w (regL n gs)) := by
  have HR := Lib.hid hr
  clear hr
  go_enter Try.func64, Try.ntmps64
  go_wp2
  go_loopw [5, 10] (fun v i wr => ∃ k : Nat, k ≤ n ∧ i = .int .i64 k ∧ wr.ownsRow w.heap.size 26 2 v (regTo n gs k 0).length (flatP (regTo n gs k 0)) ∧ Below w.heap.size w wr) (fun _ i _ => n - (intOf i).toNat)
  case atStart => exact ⟨0, Nat.zero_le _, rfl, by rw [regTo_zero]; exact World.ownsRow_nil _ _ _ _, Below.refl _ _⟩
  case round =>
    obtain ⟨k, hk, rfl, hown, hbel⟩ := hrel
    by_cases hlt : k < n
    · obtain ⟨wo, rfl⟩ : ∃ wo : World, wo = wr := ⟨_, rfl⟩
      go_wp2
      go_loopw [5, 14] (fun v j wr => ∃ l : Nat, l ≤ n ∧ j = .int .i64 l ∧ wr.ownsRow w.heap.size 26 2 v (regTo n gs k l).length (flatP (regTo n gs k l)) ∧ Below w.heap.size w wr) (fun _ j _ => n - (intOf j).toNat)
      case atStart => exact ⟨0, Nat.zero_le _, rfl, hown, hbel⟩
      case round =>
        obtain ⟨l, hl', rfl, hown', hbel'⟩ := hrel
        clear hown
        have HO := Lib.hid hown'
        clear hown'
        by_cases hlt' : l < n
        · have hst := regTo_step n gs k l
          have hbd := regTo_bd (n := n) (gs := gs) (i := k) (j := l) hn hk hl'
          have HP : okP ((k : Int), (l : Int)) := ⟨⟨by omega, by simp; omega⟩, ⟨by omega, by simp; omega⟩⟩
          have HS := Lib.hid hst
          clear hst
          have hba : Below wr.heap.size wr (wr.alloc (.cells #[.int .i64 k, .int .i64 l] 26)) := (Below.refl _ _).alloc (Nat.le_refl _) _
          have hPA : PlaceAt (wr.alloc (.cells #[.int .i64 k, .int .i64 l] 26)) wr.heap.size ((k : Int), (l : Int)) := ⟨by simp, by simp, by simp⟩
          have HPA := Lib.hid hPA
          have c1 := containsL_any wr.heap.size ((k : Int), (l : Int)) q cap gs (wr.alloc (.cells #[.int .i64 k, .int .i64 l] 26)) HP hg hPA ((HR.out.below (Nat.le_refl _) hbel').below (Nat.le_refl _) hba) hl
          have HBA := Lib.hid hba
          have C1 := Lib.hid c1
          have hw1 := hbel'.size
          clear c1 hba hPA
          go_wp2_with (first
            | (go_at_call 133; refine (C1.out).mono ?_; rintro e w2 ⟨rfl, hb2⟩; have HP2 := HPA.out.below (Nat.le_refl _) hb2; obtain ⟨p0, p1, p2⟩ := HP2; have ho2 := owns_below HO.out (Nat.le_refl _) (al0 HBA.out hb2 (by simp)); have HO2 := Lib.hid ho2; clear ho2)
            | (at_builtin; refine app_place _ rfl (.tmp 24) (.tmp 26) rfl w.heap.size _ _ ((k : Int), (l : Int)) rfl (HO2.out.alloc _) w2.heap.size 1 rfl (by simp) (by simp) (by omega) (by simp <;> omega) ?_; intro v' w3 hown3 hgrow hblk))
          · have hy : agrAll gs ((k : Int), (l : Int)) = true := by assumption
            have e1 : regTo n gs k (l + 1) = regTo n gs k l ++ [((k : Int), (l : Int))] := by rw [HS.out, if_pos hy]
            have hb3 := grown_below (HO2.out.alloc (.cells #[.int .i64 k, .int .i64 l] 26)) (by simp; omega) hgrow
            have hbn := ((hbel'.trans ((al0 HBA.out hb2 (by simp)).mono hw1)).alloc (by omega) (.cells #[.int .i64 k, .int .i64 l] 26)).trans hb3
            go_roundw
            case rel => exact ⟨l + 1, by omega, by go_num, by rw [e1]; exact hown3, hbn⟩
            case measure => simp [intOf]; omega
          · have hy : agrAll gs ((k : Int), (l : Int)) = false := by assumption
            have e1 : regTo n gs k (l + 1) = regTo n gs k l := by rw [HS.out, if_neg (by simp [hy]), List.append_nil]
            go_roundw
            case rel => exact ⟨l + 1, by omega, by go_num, by rw [e1]; exact HO2.out, hbel'.trans ((al0 HBA.out hb2 (by simp)).mono hw1)⟩
            case measure => simp [intOf]; omega
        · obtain rfl : l = n := by omega
          go_wp2
          go_roundw
          case rel => exact ⟨k + 1, by omega, by go_num, by rw [← regTo_col]; exact HO.out, hbel'⟩
          case measure => simp [intOf]; omega
    · obtain rfl : k = n := by omega
      rw [regTo_all] at hown
      obtain ⟨q1, cc, rfl, r1⟩ := rowP_of_owns hown
      clear hown
      go_wp2
      go_ret
      exact ⟨q1, cc, rfl, r1, hbel⟩
end Go.Proofs.Ytcalipoknbbaaaa
namespace Go.Proofs.Ytcalipoknbbaaaa
open Go.RowKit

set_option maxRecDepth 100000 in
set_option maxHeartbeats 1000000 in
theorem some_any (b : Bool) (q qi : Option Addr) (cap capi : Nat) (gs : List Gl) (is : List Int) (w : World) (hr : RowG w q gs) (hi : RowI w qi is) (hl : gs.length ≤ 1000000) (hli : is.length ≤ 1000000) :
    Calls Try.prog 68 #[.slice q gs.length cap, .slice qi is.length capi, .bool b] w (OneG w (sel b is gs)) := by
  have HR := Lib.hid hr
  have HI := Lib.hid hi
  clear hr hi
  go_enter Try.func68, Try.ntmps68
  go_wp2
  go_loopw [7, 12] (fun v i wr => ∃ k : Nat, k ≤ gs.length ∧ i = .int .i64 k ∧ wr.ownsRow w.heap.size 28 3 v (selTo b is gs k).length (flatG (selTo b is gs k)) ∧ Below w.heap.size w wr) (fun _ i _ => gs.length - (intOf i).toNat)
  case atStart => exact ⟨0, Nat.zero_le _, rfl, by rw [selTo_zero]; exact World.ownsRow_nil _ _ _ _, Below.refl _ _⟩
  case round =>
    obtain ⟨k, hk, rfl, hown, hbel⟩ := hrel
    have HO := Lib.hid hown
    clear hown
    by_cases hlt : k < gs.length
    · obtain ⟨bb, off, rfl, hb, h1, h2, h3⟩ := HR.out.at hlt (Nat.le_refl _) hbel
      have s1 := selTo_succ b is gs k hlt (0, 0, 0)
      have l1 := selTo_le b is gs k
      have S1 := Lib.hid s1
      clear s1
      have hsz := hbel.size
      generalize gs.getD k (0, 0, 0) = g at h1 h2 h3 S1
      go_wp2_with (first
        | (go_at_call 135; refine (containsI_any k qi capi is _ ((HI.out.below (Nat.le_refl _) hbel).below (Nat.le_refl _) ((Below.refl _ _).alloc (Nat.le_refl _) _)) hli).mono ?_; rintro e w' ⟨rfl, rfl⟩)
        | (at_builtin; refine app_gal _ rfl (.tmp 22) (.tmp 24) rfl w.heap.size _ _ g rfl ((HO.out.alloc _).alloc _) (wr.heap.size + 1) 1 rfl (by simp) (by simp) (by simp) (by omega) (by simp; omega) ?_; intro v' w1 hown' hgrow hblk))
      · have hy : (hasI is (k : Int) == b) = true := by assumption
        have e1 := S1.out
        rw [if_pos hy] at e1
        have hb3 := grown_below ((HO.out.alloc (.cells #[.int .i64 g.1, .int .i64 g.2.1, .int .i64 g.2.2] 28)).alloc (.cells #[.int .i64 g.1, .int .i64 g.2.1, .int .i64 g.2.2] 28)) (by simp; omega) hgrow
        have hbn := ((hbel.alloc (by omega) (.cells #[.int .i64 g.1, .int .i64 g.2.1, .int .i64 g.2.2] 28)).alloc (by simp; omega) (.cells #[.int .i64 g.1, .int .i64 g.2.1, .int .i64 g.2.2] 28)).trans hb3
        go_roundw
        case rel => exact ⟨k + 1, hlt, by go_num, by rw [e1]; exact hown', hbn⟩
        case measure => simp [intOf]; omega
      · have hy : (hasI is (k : Int) == b) = false := by assumption
        have e1 := S1.out
        rw [if_neg (by simp [hy]), List.append_nil] at e1
        go_roundw
        case rel => exact ⟨k + 1, hlt, by go_num, by rw [e1]; exact HO.out.alloc _, hbel.alloc (by omega) _⟩
        case measure => simp [intOf]; omega
    · obtain rfl : k = gs.length := by omega
      have H1 := HO.out
      rw [selTo_all] at H1
      obtain ⟨q1, c1, rfl, r1, hn⟩ := owns_cap H1
      clear H1 HO
      go_wp2
      go_ret
      exact ⟨q1, c1, rfl, r1, hn, hbel⟩
end Go.Proofs.Ytcalipoknbbaaaa
