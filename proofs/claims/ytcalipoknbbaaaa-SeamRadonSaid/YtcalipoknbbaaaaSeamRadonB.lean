/- SeamRadon: the walk, and the row's step. -/
import Derived.Test.YtcalipoknbbaaaaMadeS
import Derived.Test.YtcalipoknbbaaaaTold
import Derived.Test.YtcalipoknbbaaaaLaw8
import Derived.Test.YtcalipoknbbaaaaFirst
import Derived.Test.YtcalipoknbbaaaaRows
import Derived.WalkKit
import Derived.ProofKit
import Derived.OpenShut
import Derived.Test.YtcalipoknbbaaaaDigC
namespace Go.Proofs.Ytcalipoknbbaaaa
open Go.RowKit
set_option linter.unusedSimpArgs false
set_option linter.unusedVariables false

theorem nil_eq (w : World) : (binOp .eql 57 (.slice none 0 0) (.slice none 0 0)).run Try.prog w = .ok (.bool true) w := by
  kernel_rfl
theorem nil_ne (w : World) (a : Addr) (n c : Nat) : (binOp .eql 57 (.slice (some a) n c) (.slice none 0 0)).run Try.prog w = .ok (.bool false) w := by
  kernel_rfl
theorem nil_ne2 (w : World) (a : Addr) (n c : Nat) : (binOp .neq 57 (.slice (some a) n c) (.slice none 0 0)).run Try.prog w = .ok (.bool true) w := by
  kernel_rfl
attribute [local go_sem] nil_eq nil_ne nil_ne2

/-- what the law wants so far -/
def WantV (W : World) (v : Value) (o : Option (List Int)) : Prop :=
  (o = none ∧ v = .slice none 0 0) ∨ ∃ xs b off c, o = some xs ∧ v = .slice (some ⟨b, off, none⟩) xs.length c ∧ RowI W (some ⟨b, off, none⟩) xs ∧ xs.length ≤ 12
theorem WantV.below {W W' : World} {v : Value} {o : Option (List Int)} (h : WantV W v o) {N : Nat} (hN : W.heap.size ≤ N) (hb : Below N W W') : WantV W' v o := by
  rcases h with h | ⟨xs, b, off, c, h1, h2, h3, h4⟩
  · exact .inl h
  · exact .inr ⟨xs, b, off, c, h1, h2, h3.below hN hb, h4⟩
theorem rowI_addr {W : World} {q : Option Addr} {xs : List Int} (h : RowI W q xs) (hn : 0 < xs.length) : ∃ b off, q = some ⟨b, off, none⟩ := by
  rcases h with rfl | ⟨b, off, e, _⟩
  · simp at hn
  · exact ⟨b, off, e⟩
theorem radTo_nx (f : List Int → Bool) (j : Nat) : radTo f (j + 1) = if f (membL (2 * j + 1)) && (match radTo f j with | none => true | some x => decide (cmpI (membL (2 * j + 1)) x < 0)) then some (membL (2 * j + 1)) else radTo f j := rfl
theorem Inv.dropI {w W : World} {G : List (Option Addr × Nat × List Gl)} {P : List (Option Addr × List Pl)} {x : Option Addr × List Int} {I : List (Option Addr × List Int)} {C : List (Nat × Nat × Value)} (h : Inv w W G P (x :: I) C) : Inv w W G P I C :=
  ⟨h.1, h.2.1, fun y hy => h.2.2.1 y (List.mem_cons_of_mem _ hy), h.2.2.2⟩
theorem memb_pos (j : Nat) : 0 < (membL (2 * j + 1)).length := by
  have : (0 : Int) ∈ membL (2 * j + 1) := by
    rw [membL, mem_membTo]
    refine ⟨by omega, by omega, ?_⟩
    simp [Nat.testBit_zero]
  exact List.length_pos_of_mem this

set_option maxRecDepth 100000 in
set_option maxHeartbeats 8000000 in
theorem SeamRadon_any (m : Nat) (ls : List B2) (hm : m < 256) (hls : ls.length = 12) (hok : ∀ x ∈ ls, ok2 x) (w : World) :
    Calls Try.prog 15 #[.agg (spotCells m ls)] w fun e w' => e = .returned (.bool true) ∧ Below w.heap.size w w' := by
  have c0 := fun W => mades_any m ls hm hls hok W
  have C0 := Lib.hid c0
  have HLS := Lib.hid hls
  have HSP := Lib.hid (SpotAt.new w m ls)
  have hb0 : Below w.heap.size w (w.alloc (.cells (spotCells m ls) 113)) := (Below.refl _ _).alloc (Nat.le_refl _) _
  have HB0 := Lib.hid hb0
  clear c0 hls hok hm hb0
  go_enter Try.func15, Try.ntmps15
  go_upto_region 2 with (first
    | (refine wpList_load113 _ _ m ls HLS.out HSP.out (.tmp 1) rfl rfl rfl ?_)
    | (go_at_call 79; refine (C0.out _).mono ?_; rintro e w1 ⟨l, q, c, rfl, hup, hr1, hq1, hb1⟩))
  have hI : Inv w w1 [] [(q, l)] [] [] := ((Inv.start w).go (HB0.out.trans (hb1.mono (by simp)))).addP hr1
  have HI := Lib.hid hI
  have HUP := Lib.hid hup
  have hl12 := hup.2.1
  clear hI hb1 hr1 hq1 C0 HLS HSP HB0
  by_cases h4 : l.length = 4
  · obtain ⟨d, d1, d2, d3⟩ := divideOf_four hup h4
    have hz : ((l.length : Int) != 4) = false := by simp [h4]
    have D1 := Lib.hid d1
    have D2 := Lib.hid d2
    have H4 := Lib.hid h4
    clear d1 d2 hup h4
    go_wp2_with (go_at_call 57; refine (HI.out.listErr (Divide_any q c l _ (HI.out.2.1 (q, l) (by simp))) D2.out).mono ?_; rintro e W ⟨q2, c2, rfl, hI⟩; replace HI := Lib.hid hI; clear hI)
    clear hz
    go_loopw [6, 7] (fun v s wr => ∃ (j : Nat) (o : Option (List Int)), j ≤ 7 ∧ s = .int .i64 (2 * j + 1 : Nat) ∧ radTo (divides l) j = o ∧ WantV wr v o ∧ Inv w wr [] [(q, l)] [(q2, d)] []) (fun _ s _ => 20 - (intOf s).toNat)
    case atStart => exact ⟨0, none, by omega, rfl, rfl, .inl ⟨rfl, rfl⟩, HI.out⟩
    case round =>
      obtain ⟨j, o, hj, rfl, ho, hv, hI⟩ := hrel
      replace HI := Lib.hid hI
      have HV := Lib.hid hv
      have HO := Lib.hid ho
      clear hI hv ho
      by_cases hlt : j < 7
      · have hs : 2 * j + 1 < 4096 := by omega
        have hs15 : ((2 * j + 1 : Nat) : Int) < 15 := by omega
        have hnx := radTo_nx (divides l) j
        have htd := radTo_succ HUP.out H4.out j hlt
        have hml := membTo_le (2 * j + 1) 12
        have hmp := memb_pos j
        obtain ⟨S, hS⟩ : ∃ S, 2 * j + 1 = S := ⟨_, rfl⟩
        have hml : (membL (2 * j + 1)).length ≤ 12 := hml
        rw [hS] at hs hs15 hnx htd hml hmp ⊢
        have CM := Lib.hid (fun W => members_any S W hs)
        have HNX := Lib.hid hnx
        have HTD := Lib.hid htd
        have HSS := Lib.hid hS
        have HML := Lib.hid hml
        have HMP := Lib.hid hmp
        have hbit := fun k => hasI_membL S k
        have HBIT := Lib.hid hbit
        clear hnx htd hS hml hmp hbit
        go_upto_region 12 with (go_at_call 87; refine (CM.out _).mono ?_; rintro e w2 ⟨q4, c4, rfl, r4, hb2⟩)
        have hI2 : Inv w w2 [] [(q, l)] [(q4, membL S), (q2, d)] [] := (HI.out.go hb2).addI r4
        have HI2 := Lib.hid hI2
        have HV2 := Lib.hid (HV.out.below (Nat.le_refl _) hb2)
        have hrl := hI2.2.1 (q, l) (by simp)
        have HRL := Lib.hid hrl
        clear hI2 r4 hb2 hrl
        go_loopw [9, 10, 41] (fun v1 v2 i wr => ∃ k : Nat, k ≤ l.length ∧ i = .int .i64 k ∧ MidP w2 wr v1 v2 (selTo true (membL S) l k) (selTo false (membL S) l k)) (fun _ _ i _ => l.length - (intOf i).toNat)
        case atStart => exact ⟨0, Nat.zero_le _, rfl, by rw [selTo_zero, selTo_zero]; exact ⟨World.ownsRow_nil _ _ _ _, World.ownsRow_nil _ _ _ _, .inl rfl, Below.refl _ _⟩⟩
        case round =>
          obtain ⟨k, hk, rfl, hmid⟩ := hrel
          have hbel := hmid.2.2.2
          by_cases hlk : k < l.length
          · obtain ⟨b, off, rfl, hb, h1, h2⟩ := HRL.out.at hlk (Nat.le_refl _) hbel
            have s1 := selTo_succ true (membL S) l k hlk (0, 0)
            have s2 := selTo_succ false (membL S) l k hlk (0, 0)
            have l1 := selTo_le true (membL S) l k
            have l2 := selTo_le false (membL S) l k
            have hbt := HBIT.out k (by omega)
            have hbq := bit_eq S k hs
            rw [hbt, ← hbq] at s1 s2
            have hown1 := hmid.1
            have hown2 := hmid.2.1
            have S1 := Lib.hid s1
            have S2 := Lib.hid s2
            have HM := Lib.hid hmid
            have H1 := Lib.hid hown1
            have H2 := Lib.hid hown2
            clear s1 s2 hmid hown1 hown2 hbt hbq
            have hsz := hbel.size
            generalize l.getD k (0, 0) = g at h1 h2 S1 S2
            go_wp2_with (first
              | (at_builtin; refine app_place _ rfl (.tmp 51) (.tmp 53) rfl w2.heap.size u9 _ g rfl ((H1.out.alloc _).alloc _) (wr.heap.size + 1) 1 rfl (by simp) (by simp) (by omega) (by simp; omega) ?_; intro v' w3 hown' hgrow hblk)
              | (at_builtin; refine app_place _ rfl (.tmp 55) (.tmp 57) rfl w2.heap.size u10 _ g rfl ((H2.out.alloc _).alloc _) (wr.heap.size + 1) 1 rfl (by simp) (by simp) (by omega) (by simp; omega) ?_; intro v' w3 hown' hgrow hblk))
            · have hy : (bits BinOp.and IntKind.i64 ((S : Int) / 2 ^ k) 1 == 1) = true := by assumption
              have hmid' := MidP.one HM.out hown' hgrow hblk
              go_roundw
              case rel => exact ⟨k + 1, hlk, by go_num, by rw [S1.out, S2.out, hy]; simpa using hmid'⟩
              case measure => simp [intOf]; omega
            · have hy : (bits BinOp.and IntKind.i64 ((S : Int) / 2 ^ k) 1 == 1) = false := by assumption
              have hmid' := MidP.two HM.out hown' hgrow hblk
              go_roundw
              case rel => exact ⟨k + 1, hlk, by go_num, by rw [S1.out, S2.out, hy]; simpa using hmid'⟩
              case measure => simp [intOf]; omega
          · obtain rfl : k = l.length := by omega
            rw [selTo_all, selTo_all] at hmid
            obtain ⟨h1, h2, _, _⟩ := hmid
            have hig := HUP.out.2.2.1
            have ga := sel_inG (b := true) (d := membL S) hig
            have gb := sel_inG (b := false) (d := membL S) hig
            have la := sel_length true (membL S) l
            have lb := sel_length false (membL S) l
            have htd := HTD.out
            generalize sel true (membL S) l = la1 at *
            generalize sel false (membL S) l = bs at *
            obtain ⟨qa, ca, rfl, ra⟩ := rowP_of_owns h1
            obtain ⟨qb, cb, rfl, rb⟩ := rowP_of_owns h2
            have na := owns_nil_capP h1
            have nb := owns_nil_capP h2
            have hT := told_any qa qb ca cb la1 bs wr ga gb ra rb na nb (by omega) (by omega)
            have HT := Lib.hid hT
            have hI3 := HI2.out.go hbel
            have HI3 := Lib.hid hI3
            have hv3 := HV2.out.below (Nat.le_refl _) hbel
            have HNX2 := Lib.hid HNX.out
            clear h1 h2 ra rb na nb ga gb hig hT hI3 hbel la lb
            generalize membL S = M at *
            cases hf : divides l M with
            | false =>
              rw [hf] at htd
              have htt : toldB la1 bs = true := by simpa using htd
              have HTT := Lib.hid htt
              have HV3 := Lib.hid hv3
              clear htd htt hv3
              go_wp2_with (go_at_call 81; refine HT.out.mono ?_; rintro e w4 ⟨rfl, hb4⟩; rw [HTT.out])
              have hI4 := (HI3.out.go hb4).dropI
              have hv4 := HV3.out.below (Nat.le_refl _) hb4
              go_roundw
              case rel => exact ⟨j + 1, radTo (divides l) j, by omega, by rw [← HSS.out]; rfl, by rw [HNX2.out, hf]; rfl, by rw [HO.out]; exact hv4, hI4⟩
              case measure => simp [intOf]; omega
            | true =>
              rw [hf] at htd
              have htt : toldB la1 bs = false := by simpa using htd
              have HTT := Lib.hid htt
              rcases hv3 with ⟨ho, rfl⟩ | ⟨xs, bx, ox, cx, ho, rfl, rx, lx⟩
              · have HOX := Lib.hid ho
                have hmm := HMP.out
                go_wp2_with (go_at_call 81; refine HT.out.mono ?_; rintro e w4 ⟨rfl, hb4⟩; rw [HTT.out])
                have hI4 := HI3.out.go hb4
                have r4 := hI4.2.2.1 (q4, M) (by simp)
                obtain ⟨b4, o4, rfl⟩ := rowI_addr r4 HMP.out
                go_roundw
                case rel => exact ⟨j + 1, some M, by omega, by rw [← HSS.out]; rfl, by rw [HNX2.out, hf, HO.out, HOX.out]; rfl, .inr ⟨M, b4, o4, c4, rfl, rfl, r4, HML.out⟩, hI4.dropI⟩
                case measure => simp [intOf]; omega
              · have HOX := Lib.hid ho
                have RX := Lib.hid rx
                have hml := HML.out
                by_cases hc : cmpI M xs < 0
                · go_wp2_with (first
                    | (go_at_call 81; refine HT.out.mono ?_; rintro e w4 ⟨rfl, hb4⟩; rw [HTT.out])
                    | (go_at_call 88; refine (compare_any q4 (some ⟨bx, ox, none⟩) c4 cx M xs _ ((HI3.out.go hb4).2.2.1 (q4, M) (by simp)) (RX.out.below (Nat.le_refl _) hb4) (by omega) (by omega)).mono ?_; rintro e w5 ⟨rfl, rfl⟩))
                  have hI4 := HI3.out.go hb4
                  have r4 := hI4.2.2.1 (q4, M) (by simp)
                  obtain ⟨b4, o4, rfl⟩ := rowI_addr r4 HMP.out
                  go_roundw
                  case rel => exact ⟨j + 1, some M, by omega, by rw [← HSS.out]; rfl, by rw [HNX2.out, hf, HO.out, HOX.out]; simp only [hc, decide_true, Bool.and_self, if_true], .inr ⟨M, b4, o4, c4, rfl, rfl, r4, HML.out⟩, hI4.dropI⟩
                  case measure => simp [intOf]; omega
                · have hc' : decide (cmpI M xs < 0) = false := decide_eq_false hc
                  go_wp2_with (first
                    | (go_at_call 81; refine HT.out.mono ?_; rintro e w4 ⟨rfl, hb4⟩; rw [HTT.out])
                    | (go_at_call 88; refine (compare_any q4 (some ⟨bx, ox, none⟩) c4 cx M xs _ ((HI3.out.go hb4).2.2.1 (q4, M) (by simp)) (RX.out.below (Nat.le_refl _) hb4) (by omega) (by omega)).mono ?_; rintro e w5 ⟨rfl, rfl⟩))
                  have hI4 := HI3.out.go hb4
                  go_roundw
                  case rel => exact ⟨j + 1, some xs, by omega, by rw [← HSS.out]; rfl, by rw [HNX2.out, hf, HO.out, HOX.out]; simp only [hc', Bool.and_false, Bool.false_eq_true, if_false], .inr ⟨xs, bx, ox, cx, rfl, rfl, RX.out.below (Nat.le_refl _) hb4, lx⟩, hI4.dropI⟩
                  case measure => simp [intOf]; omega
      · obtain rfl : j = 7 := by omega
        have ho := HO.out
        rw [D1.out] at ho
        subst ho
        rcases HV.out with ⟨h, _⟩ | ⟨xs, bx, ox, cx, h, rfl, rx, lx⟩
        · cases h
        · obtain rfl := Option.some.inj h
          have hI4 := HI.out.addI rx
          have HI4 := Lib.hid hI4
          have hdd : (d == d) = true := beq_self_eq_true _
          have HDD := Lib.hid hdd
          clear HV HI hI4 rx h hdd
          go_wp2_with (first
            | (go_at_call 38; refine (HI4.out.same q2 (some ⟨bx, ox, none⟩) c2 cx d d true (by simp) (by simp) (by omega) (by omega) HDD.out).mono ?_; rintro e w5 ⟨rfl, hI5⟩)
            | (go_at_call 19; refine (works_any _).mono ?_; rintro e w6 ⟨rfl, hb6⟩))
          go_ret
          exact ⟨rfl, (hI5.go hb6).2.2.2.2⟩
  · have d2 := divideOf_short hup h4
    have D2 := Lib.hid d2
    have hz : ((l.length : Int) != 4) = true := by simp; omega
    clear d2 h4
    go_wp2_with (first
      | (go_at_call 57; refine (HI.out.listErr (Divide_any q c l _ (HI.out.2.1 (q, l) (by simp))) D2.out).mono ?_; rintro e W ⟨q2, c2, rfl, hI⟩; replace HI := Lib.hid hI; clear hI)
      | (go_at_call 19; refine (works_any _).mono ?_; rintro e w6 ⟨rfl, hb6⟩))
    go_ret
    exact ⟨rfl, (HI.out.go hb6).2.2.2.2⟩
end Go.Proofs.Ytcalipoknbbaaaa
namespace Go.Proofs.Ytcalipoknbbaaaa.seamRadon
open Go Go.ChangeShapes Go.WideShapes Go.ChangeAt Go.RowKit

theorem own : ownKnob Try.prog.godebug = none := by kernel_rfl

set_option maxRecDepth 100000 in
theorem lifted (os : Os) (started : os.Started) (H : Type) (enc : TypeId × Value → H) :
    ReturnsInHanded {} Try.checked os 15 .any (Rows.seamRadonSpec.pre6 enc Try.prog Try.f15 Rows.seamRadonRow.domain false) (Rows.seamRadonSpec.post enc Try.prog Try.f15 false true false false) := by
  refine returnsInHanded_of_change (C := Try.checked) own started (by kernel_rfl) Try.func15
    (ChangeSpec.witness6 (enc := enc) (C := Try.checked) false { blocks := #[], args := #[.agg (spotCells 0 (List.replicate 12 (0, 0)))], vars := [] } 8 (by kernel_rfl) (by kernel_rfl) (by kernel_rfl) (by kernel_rfl)) ?_
  intro W base args ds gs before hval0 hW hcnd _
  have hval : ∀ (j : Nat) t v, Try.f15.params[j]? = some t → args[j]? = some v → Value.okWide Try.prog W .any base t v := hval0
  have hW' := hW
  obtain ⟨p, q, hA0, hV, rfl, hfz, hnd⟩ := hW
  have hA : DataW.TrodAll enc Try.prog W 0 (fun _ => true) true Try.f15.params.toList args.toList ds p := hA0
  rw [Try.params15] at hA hval
  obtain ⟨v0, d0, rfl, rfl, h0⟩ := trodAll_one hA
  obtain ⟨rfl, rfl⟩ := trodVars_none hV
  obtain ⟨rfl, g0⟩ := trod_same 5 plain113 h0
  obtain ⟨m0, ls0, rfl, k0a, k0b, k0c⟩ := spot_of (hval 0 113 v0 rfl rfl)
  clear hA0 hval0
  simp only [List.append_nil] at hW'
  refine (SeamRadon_any m0 ls0 k0a k0b k0c W).mono fun e W' ⟨he, hg⟩ => ?_
  subst he
  refine ⟨_, rfl, _, _, _, [] ++ [], [] ++ [], [], hW', ?_, ?_, ?_, hg.frame _, fun h => by cases h⟩
  · exact trodAll_cons_mk (shut_bool Try.underlying4 _) trodAll_mk0
  · exact trodAll_cons_mk (g0 _ _ _ _) trodAll_mk0
  · rfl

end Go.Proofs.Ytcalipoknbbaaaa.seamRadon
