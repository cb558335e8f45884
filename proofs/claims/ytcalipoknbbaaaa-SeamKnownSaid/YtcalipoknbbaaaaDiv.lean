/- Divide (package seam). -/
import Derived.Test.YtcalipoknbbaaaaApart
namespace Go.Proofs.Ytcalipoknbbaaaa
open Go.RowKit

/-- the divisions of four points -/
def divs : List (List Int) := [[0], [0, 1], [0, 1, 2], [0, 1, 3], [0, 2], [0, 2, 3], [0, 3]]
/-- the divisions in memory -/
def DivsAt (W : World) (S : Nat) : Prop :=
  S + 7 < W.heap.size ∧ ∀ k, k < 7 → W.cell? ⟨S + 7, k, none⟩ = some (.slice (some ⟨S + k, 0, none⟩) (divs.getD k []).length (divs.getD k []).length) ∧ RowI W (some ⟨S + k, 0, none⟩) (divs.getD k [])
theorem DivsAt.below {W W' : World} {S : Nat} (h : DivsAt W S) {N : Nat} (hN : W.heap.size ≤ N) (hb : Below N W W') : DivsAt W' S :=
  ⟨Nat.lt_of_lt_of_le h.1 hb.size, fun k hk => ⟨(hb.cell (p := ⟨S + 7, k, none⟩) (Nat.lt_of_lt_of_le h.1 hN)).trans (h.2 k hk).1, (h.2 k hk).2.below hN hb⟩⟩

/-- a world with the divisions laid -/
def divW (W : World) : World :=
  (((((((W.alloc (.cells #[.int .i64 0] 3)).alloc (.cells #[.int .i64 0, .int .i64 1] 3)).alloc (.cells #[.int .i64 0, .int .i64 1, .int .i64 2] 3)).alloc (.cells #[.int .i64 0, .int .i64 1, .int .i64 3] 3)).alloc (.cells #[.int .i64 0, .int .i64 2] 3)).alloc (.cells #[.int .i64 0, .int .i64 2, .int .i64 3] 3)).alloc (.cells #[.int .i64 0, .int .i64 3] 3)).alloc
    (.cells #[.slice (some ⟨W.heap.size, 0, none⟩) 1 1, .slice (some ⟨W.heap.size + 1, 0, none⟩) 2 2, .slice (some ⟨W.heap.size + 1 + 1, 0, none⟩) 3 3, .slice (some ⟨W.heap.size + 1 + 1 + 1, 0, none⟩) 3 3, .slice (some ⟨W.heap.size + 1 + 1 + 1 + 1, 0, none⟩) 2 2, .slice (some ⟨W.heap.size + 1 + 1 + 1 + 1 + 1, 0, none⟩) 3 3, .slice (some ⟨W.heap.size + 1 + 1 + 1 + 1 + 1 + 1, 0, none⟩) 2 2] 57)
theorem divW_size (W : World) : (divW W).heap.size = W.heap.size + 8 := by simp [divW]
theorem divW_below (W : World) : Below W.heap.size W (divW W) := by
  unfold divW
  refine ((((((((Below.refl _ _).alloc ?_ _).alloc ?_ _).alloc ?_ _).alloc ?_ _).alloc ?_ _).alloc ?_ _).alloc ?_ _).alloc ?_ _ <;> simp <;> omega
def divObjs (S : Nat) : Array Obj := #[.cells #[.int .i64 0] 3, .cells #[.int .i64 0, .int .i64 1] 3, .cells #[.int .i64 0, .int .i64 1, .int .i64 2] 3, .cells #[.int .i64 0, .int .i64 1, .int .i64 3] 3, .cells #[.int .i64 0, .int .i64 2] 3, .cells #[.int .i64 0, .int .i64 2, .int .i64 3] 3, .cells #[.int .i64 0, .int .i64 3] 3,
  .cells #[.slice (some ⟨S, 0, none⟩) 1 1, .slice (some ⟨S + 1, 0, none⟩) 2 2, .slice (some ⟨S + 1 + 1, 0, none⟩) 3 3, .slice (some ⟨S + 1 + 1 + 1, 0, none⟩) 3 3, .slice (some ⟨S + 1 + 1 + 1 + 1, 0, none⟩) 2 2, .slice (some ⟨S + 1 + 1 + 1 + 1 + 1, 0, none⟩) 3 3, .slice (some ⟨S + 1 + 1 + 1 + 1 + 1 + 1, 0, none⟩) 2 2] 57]
theorem divW_heap (W : World) : (divW W).heap = W.heap ++ divObjs W.heap.size := by
  unfold divW divObjs
  simp only [World.alloc]
  apply Array.ext'
  simp only [Array.toList_push, Array.toList_append, List.append_assoc, List.cons_append, List.nil_append]
theorem divW_get (W : World) (j : Nat) : (divW W).heap[W.heap.size + j]? = (divObjs W.heap.size)[j]? := by
  rw [divW_heap, Array.getElem?_append_right (Nat.le_add_right _ _), Nat.add_sub_cancel_left]
theorem divW_at (W : World) : DivsAt (divW W) W.heap.size := by
  refine ⟨by rw [divW_size]; omega, ?_⟩
  intro k hk
  refine ⟨?_, .inr ⟨W.heap.size + k, 0, rfl, by rw [divW_size]; omega, ?_⟩⟩
  · rw [cell_of_row (divW W) (W.heap.size + 7) k _ _ _ (divW_get W 7)]
    match k, hk with
    | 0, _ => rfl
    | 1, _ => rfl
    | 2, _ => rfl
    | 3, _ => rfl
    | 4, _ => rfl
    | 5, _ => rfl
    | 6, _ => rfl
  · intro i hi
    rw [Nat.zero_add]
    match k, hk with
    | 0, _ => rw [cell_of_row (divW W) (W.heap.size + 0) i _ _ _ (divW_get W 0)]; match i, hi with | 0, _ => rfl
    | 1, _ => rw [cell_of_row (divW W) (W.heap.size + 1) i _ _ _ (divW_get W 1)]; match i, hi with | 0, _ => rfl | 1, _ => rfl
    | 2, _ => rw [cell_of_row (divW W) (W.heap.size + 2) i _ _ _ (divW_get W 2)]; match i, hi with | 0, _ => rfl | 1, _ => rfl | 2, _ => rfl
    | 3, _ => rw [cell_of_row (divW W) (W.heap.size + 3) i _ _ _ (divW_get W 3)]; match i, hi with | 0, _ => rfl | 1, _ => rfl | 2, _ => rfl
    | 4, _ => rw [cell_of_row (divW W) (W.heap.size + 4) i _ _ _ (divW_get W 4)]; match i, hi with | 0, _ => rfl | 1, _ => rfl
    | 5, _ => rw [cell_of_row (divW W) (W.heap.size + 5) i _ _ _ (divW_get W 5)]; match i, hi with | 0, _ => rfl | 1, _ => rfl | 2, _ => rfl
    | 6, _ => rw [cell_of_row (divW W) (W.heap.size + 6) i _ _ _ (divW_get W 6)]; match i, hi with | 0, _ => rfl | 1, _ => rfl

/-- are both parts of a division not told apart? -/
def divides (ps : List Pl) (d : List Int) : Bool := !sepB (sel true d ps) (sel false d ps)
/-- what Divide returns -/
def divideOf (ps : List Pl) : List Int × Int := if errP ps ≠ 0 then ([], errP ps) else if ps.length ≠ 4 then ([], 5) else ((divs.find? (divides ps)).getD [], 0)

set_option maxRecDepth 100000 in
set_option maxHeartbeats 1000000 in
theorem Divide_any (q : Option Addr) (cap : Nat) (ps : List Pl) (w : World) (hr : RowP w q ps) :
    Calls Try.prog 57 #[.slice q ps.length cap] w (ListErr w (divideOf ps)) := by
  have c1 := Points_any q cap ps w hr
  have C1 := Lib.hid c1
  have HR := Lib.hid hr
  clear c1 hr
  by_cases h0 : errP ps = 0
  · have hb : (errP ps != 0) = false := by simp [h0]
    obtain ⟨o1, o2, o3, o4⟩ := errP_ok h0
    by_cases h4 : ps.length = 4
    · have hb4 : ((ps.length : Int) != 4) = false := by simp [h4]
      have hres : divideOf ps = ((divs.find? (divides ps)).getD [], 0) := by rw [divideOf, if_neg (by simp [h0]), if_neg (by simp [h4])]
      have HRES := Lib.hid hres
      clear hres h0 h4
      go_enter Try.func57, Try.ntmps57
      go_wp2_with (go_at_call 55; refine C1.out.mono ?_; rintro e w1 ⟨rfl, hb1⟩)
      have HD := Lib.hid (divW_at w1)
      have HDB := Lib.hid (divW_below w1)
      have HR1 := Lib.hid (HR.out.below (Nat.le_refl _) hb1)
      have hlen : ps.length ≤ 1000000 := by omega
      generalize hds : divides ps = good at HRES
      have hgd : ∀ d, good d = !sepB (sel true d ps) (sel false d ps) := fun d => by rw [← hds]; rfl
      have HGD := Lib.hid hgd
      clear hgd hds
      go_loopw [28] (fun i wr => ∃ k : Nat, k ≤ 7 ∧ i = .int .i64 k ∧ divs.find? good = (divs.drop k).find? good ∧ Below (divW w1).heap.size (divW w1) wr) (fun i _ => 7 - (intOf i).toNat)
      case atStart => exact ⟨0, Nat.zero_le _, rfl, rfl, Below.refl _ _⟩
      case round =>
        obtain ⟨k, hk, rfl, hfind, hbel⟩ := hrel
        by_cases hlt : k < 7
        · have hd := HD.out.below (Nat.le_refl _) hbel
          obtain ⟨t1, t2⟩ := hd.2 k hlt
          have hdl : k < divs.length := by simpa [divs] using hlt
          rw [List.drop_eq_getElem_cons hdl, ← getD_eq divs k [] hdl, List.find?_cons] at hfind
          have hi0 : (0 : Int) ≤ (k : Int) := by omega
          have hi7 : (k : Int) < 7 := by omega
          have hdlen : (divs.getD k []).length ≤ 1000000 := by
            have : ∀ d ∈ divs, d.length ≤ 1000000 := by decide
            exact this _ (getD_mem divs k [] hdl)
          generalize divs.getD k [] = d at t1 t2 hfind hdlen
          have t1' : wr.cell? ⟨w1.heap.size + 1 + 1 + 1 + 1 + 1 + 1 + 1, k, none⟩ = some (.slice (some ⟨w1.heap.size + k, 0, none⟩) d.length d.length) := t1
          have HT2 := Lib.hid t2
          have HF := Lib.hid hfind
          have hb8 := (HDB.out.trans (hbel.mono (by rw [divW_size]; omega)))
          have HB8 := Lib.hid hb8
          have c114 := splitP_any q (some ⟨w1.heap.size + k, 0, none⟩) cap d.length ps d wr (HR1.out.below (Nat.le_refl _) hb8) t2 hlen hdlen
          have C114 := Lib.hid c114
          have c115 := fun q1 q2 c1 c2 W h1 h2 => separate_any q1 q2 c1 c2 (sel true d ps) (sel false d ps) W (fun p hp => o4 p (sel_mem _ _ _ p hp)) (fun p hp => o4 p (sel_mem _ _ _ p hp)) h1 h2 (by have := sel_length true d ps; omega) (by have := sel_length false d ps; omega)
          have C115 := Lib.hid c115
          have HT1 := Lib.hid t1
          have hn1 : w1.heap.size ≤ wr.heap.size := hb8.size
          clear t1 t2 hfind hd hb8 c114 c115 hdl
          go_wp2_with (first
            | (go_at_call 114; refine C114.out.mono ?_; rintro e w2 ⟨q1, d1, q2, d2, rfl, r1, r2, hb2⟩)
            | (go_at_call 115; refine (C115.out q1 q2 d1 d2 w2 r1 r2).mono ?_; rintro e w3 ⟨rfl, hb3⟩))
          · have hs : (!sepB (sel true d ps) (sel false d ps)) = true := by assumption
            have hg1 : good d = true := by rw [HGD.out]; exact hs
            have hf2 : divs.find? good = some d := by rw [HF.out, hg1]
            have hbn := ((hb1.trans (HB8.out.mono hb1.size)).trans ((hb2.trans (hb3.mono hb2.size)).mono (by have := hb1.size; omega))).alloc (by have := hb1.size; have := hb2.size; have := hb3.size; omega) (.cells #[.int .i64 (sepG (sel true d ps) (sel false d ps)).1, .int .i64 (sepG (sel true d ps) (sel false d ps)).2.1, .int .i64 (sepG (sel true d ps) (sel false d ps)).2.2] 28)
            go_ret2
            refine ⟨some ⟨w1.heap.size + k, 0, none⟩, d.length, by rw [HRES.out, hf2]; rfl, ?_, hbn⟩
            rw [HRES.out, hf2]
            exact HT2.out.below (Nat.le_refl _) ((hb2.trans (hb3.mono hb2.size)).alloc (by have := hb2.size; have := hb3.size; omega) _)
          · have hs : (!sepB (sel true d ps) (sel false d ps)) = false := by assumption
            have hg1 : good d = false := by rw [HGD.out]; exact hs
            have hf2 : divs.find? good = (divs.drop (k + 1)).find? good := by rw [HF.out, hg1]
            go_roundw
            case rel => exact ⟨k + 1, hlt, by go_num, hf2, (hbel.trans ((hb2.trans (hb3.mono hb2.size)).mono hbel.size)).alloc (by have := hbel.size; have := hb2.size; have := hb3.size; omega) _⟩
            case measure => simp [intOf]; omega
        · obtain rfl : k = 7 := by omega
          have hfn : divs.find? good = none := by rw [hfind]; rfl
          have HF := Lib.hid hfn
          clear hfind hfn
          go_wp2
          go_ret2
          exact ⟨none, 0, by rw [HRES.out, HF.out]; rfl, by rw [HRES.out, HF.out]; exact .inl rfl, (hb1.trans (HDB.out.mono hb1.size)).trans (hbel.mono (by rw [divW_size]; have := hb1.size; omega))⟩
    · have hb4 : ((ps.length : Int) != 4) = true := by simp; omega
      have hres : divideOf ps = ([], 5) := by rw [divideOf, if_neg (by simp [h0]), if_pos h4]
      have HRES := Lib.hid hres
      clear hres h0 h4
      go_enter Try.func57, Try.ntmps57
      go_wp2_with (go_at_call 55; refine C1.out.mono ?_; rintro e w1 ⟨rfl, hb1⟩)
      go_ret2
      exact ⟨none, 0, by rw [HRES.out]; rfl, by rw [HRES.out]; exact .inl rfl, hb1⟩
  · have hb : (errP ps != 0) = true := by simp [h0]
    have hres : divideOf ps = ([], errP ps) := by rw [divideOf, if_pos h0]
    have HRES := Lib.hid hres
    clear hres h0
    go_enter Try.func57, Try.ntmps57
    go_wp2_with (go_at_call 55; refine C1.out.mono ?_; rintro e w1 ⟨rfl, hb1⟩)
    go_ret2
    exact ⟨none, 0, by rw [HRES.out]; rfl, by rw [HRES.out]; exact .inl rfl, hb1⟩
end Go.Proofs.Ytcalipoknbbaaaa
