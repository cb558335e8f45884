/- slices.SortFunc at the corners; Hull (package seam). -/
import Derived.Test.YtcalipoknbbaaaaSortS
namespace Go.Proofs.Ytcalipoknbbaaaa
open Go.RowKit
open Go.Sort (putRowK size_putRowK cell?_putRowK_other)

set_option maxHeartbeats 1000000 in
theorem sortF_any (f : Pl) (hf : onG 7 f = true) (B blk off cap : Nat) (r : List Pl) (hr : ∀ p ∈ r, okP p ∧ beforeP f p = true) (w : World) (hB : B < w.heap.size) (hf1 : w.cell? ⟨B, 0, none⟩ = some (.int .i64 f.1)) (hf2 : w.cell? ⟨B, 1, none⟩ = some (.int .i64 f.2))
    (hne : B ≠ blk) (hblk : blk < w.heap.size) (hl : r.length ≤ 12) (hP : PutP w blk off r) :
    Calls Try.prog 85 #[.slice (some ⟨blk, off, none⟩) r.length cap, .func (.func 116) #[] #[.pointer (some ⟨B, 0, none⟩)]] w fun e w' =>
      e = .returned (.tuple #[]) ∧ ∃ l, l.Perm r ∧ TurnSorted f l ∧ PutP w' blk off l ∧ (∀ o, o < off ∨ off + r.length * 2 ≤ o → w'.cell? ⟨blk, o, none⟩ = w.cell? ⟨blk, o, none⟩) ∧ Below blk w w' := by
  have hof : okP f := onG_ok (n := 7) (by decide) hf
  letI : Inhabited (Aft f) := ⟨⟨(f.1 + 1, f.2), aft_wit hf⟩⟩
  have hv := toAft_val f r hr
  generalize toAft f r hr = ra at hv
  have hlen : r.length = ra.toArray.size := by rw [← hv]; simp
  have hH := holdsK_of f w blk off ra (by rw [hv]; exact hP)
  have eg : ∀ args w, (callFunc 116 args).run Try.prog w = .ok (.enter 116 args) w := enters_of Try.func116 (by kernel_rfl) rfl
  have hcon := AnyQ.slices_SortFunc_small_sorted Try.sortPl 2 Try.isAgg26 Try.sizeOf26 (encA f) (fun _ => rfl) (fun x v hv => by simp [encA] at hv; rcases hv with rfl | rfl <;> rfl) (cfA f) 116 #[.pointer (some ⟨B, 0, none⟩)] (swoA f) blk off cap ra.toArray w eg
    (cmpLays f B blk off _ w hB hne hf1 hf2 hof) hH hblk (by omega) Try.hlen
  rw [hlen]
  refine hcon.mono ?_
  rintro e w' ⟨rfl, d', n, os, hp, hs, rfl⟩
  obtain ⟨p1, p2, p3⟩ := hp
  have hsz : d'.size = ra.length := by rw [p1]; simp
  refine ⟨rfl, d'.toList.map (·.1), ?_, ?_, ?_, ?_, ?_⟩
  · rw [← hv]
    refine List.Perm.map _ ?_
    have q := p3
    rw [Array.extract_eq_self_of_le (by simp; omega), Array.extract_eq_self_of_le (by simp)] at q
    simpa using q
  · unfold TurnSorted
    rw [List.pairwise_map, List.pairwise_iff_getElem]
    intro i j hi hj hij
    have hi' : i < d'.size := by simpa using hi
    have hj' : j < d'.size := by simpa using hj
    have q := hs i j (Nat.zero_le _) hij (by simp; omega)
    rw [getElem!_pos d' i hi', getElem!_pos d' j hj', ltA] at q
    simp only [decide_eq_false_iff_not, Int.not_lt] at q
    have e : cross (d'[i].1.1 - f.1) (d'[i].1.2 - f.2) (d'[j].1.1 - f.1) (d'[j].1.2 - f.2) = -(cross (d'[j].1.1 - f.1) (d'[j].1.2 - f.2) (d'[i].1.1 - f.1) (d'[i].1.2 - f.2)) := by unfold cross; grind
    simp only [Array.getElem_toList]
    rw [e]
    omega
  · refine putP_of f _ blk off d'.toList ?_
    exact holdsK_sortWorldK_c (encA f) 2 w blk off ra.toArray d' n os hH hblk (by rw [p1])
  · intro o ho
    unfold sortWorldK
    have h1 : blk < (putRowK (encA f) 2 (Sort.ahead w n) blk off d').heap.size := by rw [size_putRowK]; exact hblk
    have h2 : (Sort.grow (putRowK (encA f) 2 (Sort.ahead w n) blk off d') os).cell? ⟨blk, o, none⟩ = (putRowK (encA f) 2 (Sort.ahead w n) blk off d').cell? ⟨blk, o, none⟩ := by
      simp only [World.cell?, Sort.grow, Array.getElem?_append_left h1]
    rw [h2]
    refine Sort.cell?_putRow_other id _ blk off _ _ (.inr ?_)
    rw [Sort.size_flatK, hsz]
    simpa using ho
  · refine ⟨rfl, rfl, rfl, size_sortWorldK_c _ _ _ _ _ _ _ _, ?_⟩
    intro b hb
    have h1 : b < (putRowK (encA f) 2 (Sort.ahead w n) blk off d').heap.size := by rw [size_putRowK]; exact Nat.lt_trans hb hblk
    show ((putRowK (encA f) 2 (Sort.ahead w n) blk off d').heap ++ os)[b]? = w.heap[b]?
    rw [Array.getElem?_append_left h1]
    show (w.heap.modify blk _)[b]? = _
    rw [Array.getElem?_modify, if_neg (by omega)]
end Go.Proofs.Ytcalipoknbbaaaa
