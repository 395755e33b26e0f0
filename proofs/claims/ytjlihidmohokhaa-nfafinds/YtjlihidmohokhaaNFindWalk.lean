/-
  The law NfaFinds, called with any two texts, returns true, and nothing of what was in memory has turned; conditions: the lengths of both.
-/
import Derived.Test.YtjlihidmohokhaaNSmall
import Derived.Test.YtjlihidmohokhaaNKids
import Derived.Deep.RegionHeld3
import Derived.Deep.CutRange
namespace Go.Proofs.Ytjlihidmohokhaa
open Go.RowKit Go.Proofs.Ytjlihidmohokhaa.Gl

theorem find_node {x : Nd} (h1 : withinN x 100 = true) (h2 : sizeN x ≤ 500) (h3 : cntN x ≤ 100) : rightN (.mk 3 none_ [anyN, x, anyN] 0 0) = true ∧ cntN (.mk 3 none_ [anyN, x, anyN] 0 0) ≤ 1048576 := by
  have ha : withinN anyN 100 = true := by decide +kernel
  have hs : sizeN anyN = 2 := by decide +kernel
  have hc : cntN anyN = 2 := by decide +kernel
  have hw := right_of (k := 3) (l := [anyN, x, anyN]) (m := 100) (Or.inl rfl) (by simp) (by
    intro d hd
    simp at hd
    rcases hd with rfl | rfl | rfl
    · exact ha
    · exact h1
    · exact ha)
  refine ⟨?_, ?_⟩
  · unfold rightN
    rw [within_mono _ _ 200 (by omega) hw, size_cat 3 (by decide)]
    simp [sizes, hs]
    omega
  · rw [cntN]
    simp [cnts, hc]
    omega

set_option maxHeartbeats 8000000 in
theorem nfaFinds_any (t s : Tx) (w : World) (ht : t.length ≤ 281474976710656) (hs : s.length ≤ 281474976710656) :
    Calls Try.prog 4 #[S t, S s] w fun e w' => e = .returned (.bool true) ∧ Below w.heap.size w w' := by
  have HSM := hidden (fun (X : World) => small_any t X ht)
  unfold S at HSM ⊢
  go_enter Try.func4, Try.ntmps4
  go_wp2_with fail
  refine (alive_any _).mono ?_
  rintro e w1 ⟨rfl, hb1⟩
  have HB1 := hidden hb1
  clear hb1
  go_wp2_with fail
  refine (HSM.out _).mono ?_
  rintro en w2 ⟨hb2, ha2⟩
  obtain ⟨vx, x, ok, rfl, hnx, hok⟩ := ha2
  obtain ⟨z, y0, y1, y2, y3, sa, sn, sc, lo, hi, rfl⟩ := hnx.shapeI
  have HB2 := hidden (HB1.out.trans (hb2.mono HB1.out.size))
  have HN2 := hidden (show NodeAt w2 (fun _ => True) (.agg #[.int .i64 z, .int .u64 y0, .int .u64 y1, .int .u64 y2, .int .u64 y3, .slice sa sn sc, .int .i64 lo, .int .i64 hi]) x from hnx.keep fun _ _ _ => ⟨rfl, trivial⟩)
  have HZ2 := hidden (Blk.new w2 (.int .i64 z) (.int .u64 y0) (.int .u64 y1) (.int .u64 y2) (.int .u64 y3) (.slice sa sn sc) (.int .i64 lo) (.int .i64 hi))
  clear hb2 hnx
  cases ok with
  | false =>
    clear hok
    go_wp2_with fail
    go_ret
    exact ⟨rfl, by (with_reducible (repeat (first | exact HB2.out | apply bel_alloc | apply bel_put | apply bel_set | apply Below.drew | apply below_drewN | omega)))⟩
  | true =>
    have HOK := hidden (hok rfl).facts
    have hcx : cntN x ≤ 100 := (hok rfl).facts.2.2.2
    clear hok
    by_cases h1 : s.length ≤ 30
    · have h1' : ¬ (30 : Int) < s.length := by omega
      have h1d : decide ((30 : Int) < s.length) = false := decide_eq_false h1'
      go_upto_region 6 with fail
      generalize hW5 : World.alloc _ _ = W5
      have hwd := word_all
      have HA5 := hidden (show NodeAt W5 (fun _ => True) (.agg #[.int .i64 2, .int .u64 18446744073709551615, .int .u64 18446744073709551615, .int .u64 18446744073709551615, .int .u64 18446744073709551615, .slice none 0 0, .int .i64 0, .int .i64 0]) (setN allB) from by
        have := setN_at W5 (fun _ => True) allB
        unfold nodeV at this
        rw [hwd.1, hwd.2.1, hwd.2.2.1, hwd.2.2.2] at this
        exact this)
      have HS5 := hidden (show Blk W5 (w2.heap.size + 1) (.int .i64 2) (.int .u64 18446744073709551615) (.int .u64 18446744073709551615) (.int .u64 18446744073709551615) (.int .u64 18446744073709551615) (.slice none 0 0) (.int .i64 0) (.int .i64 0) by
        rw [← hW5]
        refine Blk.alloc (Blk.newAt ?_) _
        simp)
      have HK5 := hidden (show TK w w2.heap.size (fun _ => True) z y0 y1 y2 y3 sa sn sc lo hi x (w2.heap.size + 1 + 1) (fun _ => True) 5 0 0 0 0 (some ⟨w2.heap.size + 1, 0, none⟩) 1 1 0 (-1) anyN W5 from ⟨by rw [← hW5]; (with_reducible (repeat (first | exact HB2.out | apply bel_alloc | apply bel_put | apply bel_set | apply Below.drew | apply below_drewN | omega))), by rw [← hW5]; (with_reducible (repeat (first | exact HZ2.out | exact Blk.newAt (by simp) | apply Blk.alloc | apply Blk.put | apply Blk.putOther | apply Blk.other | apply Blk.drewN | apply Blk.drew | omega))), by rw [← hW5]; (with_reducible (repeat (first | exact HN2.out | apply NodeAt.alloc | apply NodeAt.putN | apply NodeAt.other | apply NodeAt.putO | apply NodeAt.otherO | apply NodeAt.drewN | apply NodeAt.drew | omega))), by rw [← hW5]; exact Blk.newAt (by simp), by
        exact times_at HA5.out HS5.out trivial rfl⟩)
      have HC := hidden (fun (X : World) (k : TK w w2.heap.size (fun _ => True) z y0 y1 y2 y3 sa sn sc lo hi x (w2.heap.size + 1 + 1) (fun _ => True) 5 0 0 0 0 (some ⟨w2.heap.size + 1, 0, none⟩) 1 1 0 (-1) anyN X) => k.held)
      have HFI := hidden (show ∀ X, TK w w2.heap.size (fun _ => True) z y0 y1 y2 y3 sa sn sc lo hi x (w2.heap.size + 1 + 1) (fun _ => True) 5 0 0 0 0 (some ⟨w2.heap.size + 1, 0, none⟩) 1 1 0 (-1) anyN X → Calls Try.prog 15 #[.agg #[.int .i64 z, .int .u64 y0, .int .u64 y1, .int .u64 y2, .int .u64 y3, .slice sa sn sc, .int .i64 lo, .int .i64 hi], .string ⟨s.toArray⟩] X fun e w' => e = .returned (.bool (someB s x)) ∧ TK w w2.heap.size (fun _ => True) z y0 y1 y2 y3 sa sn sc lo hi x (w2.heap.size + 1 + 1) (fun _ => True) 5 0 0 0 0 (some ⟨w2.heap.size + 1, 0, none⟩) 1 1 0 (-1) anyN w' ∧ Below X.heap.size X w' from fun X k => (nFinds_any _ _ s _ _ k.nod0 (by omega) (by omega)).mono fun e w7 h => ⟨h.1, k.later h.2, h.2⟩)
      have HMA := hidden (show ∀ X bb, TK w w2.heap.size (fun _ => True) z y0 y1 y2 y3 sa sn sc lo hi x (w2.heap.size + 1 + 1) (fun _ => True) 5 0 0 0 0 (some ⟨w2.heap.size + 1, 0, none⟩) 1 1 0 (-1) anyN X → X.heap[bb]? = some (.cells #[.int .i64 5, .int .u64 0, .int .u64 0, .int .u64 0, .int .u64 0, .slice (some ⟨w2.heap.size + 1, 0, none⟩) 1 1, .int .i64 0, .int .i64 (-1), .int .i64 z, .int .u64 y0, .int .u64 y1, .int .u64 y2, .int .u64 y3, .slice sa sn sc, .int .i64 lo, .int .i64 hi, .int .i64 5, .int .u64 0, .int .u64 0, .int .u64 0, .int .u64 0, .slice (some ⟨w2.heap.size + 1, 0, none⟩) 1 1, .int .i64 0, .int .i64 (-1)] 26) → Calls Try.prog 13 #[.agg #[.int .i64 3, .int .u64 0, .int .u64 0, .int .u64 0, .int .u64 0, .slice (some ⟨bb, 0, none⟩) 3 3, .int .i64 0, .int .i64 0], .string ⟨s.toArray⟩] X fun e w' => e = .returned (.bool (someB s x)) ∧ TK w w2.heap.size (fun _ => True) z y0 y1 y2 y3 sa sn sc lo hi x (w2.heap.size + 1 + 1) (fun _ => True) 5 0 0 0 0 (some ⟨w2.heap.size + 1, 0, none⟩) 1 1 0 (-1) anyN w' from fun X bb k hbb => by
        have hf := find_node HOK.out.2.1 HOK.out.2.2.1 hcx
        refine (nMatches_any _ _ s _ _ (over_at (kids_three hbb k.nod1 k.nod0 k.nod1)) hf.2 (by omega)).mono fun e w7 h => ⟨?_, k.later h.2⟩
        rw [h.1]
        have : wholeB s (.mk 3 none_ [anyN, x, anyN] 0 0) = someB s x := by
          rw [Bool.eq_iff_iff, wholeB_is, someB_is, finds_between]
          simp [hf.1, HOK.out.1]
        rw [this])
      clear hW5 hwd HA5 HS5 HSM HB1 HB2 HN2 HZ2 HOK ht hs h1' h1d
      go_region_held3 (fun X => X.cell? ⟨w2.heap.size, 0, none⟩ = some (.int .i64 z) ∧ X.cell? ⟨w2.heap.size, 1, none⟩ = some (.int .u64 y0) ∧ X.cell? ⟨w2.heap.size, 2, none⟩ = some (.int .u64 y1) ∧ X.cell? ⟨w2.heap.size, 3, none⟩ = some (.int .u64 y2) ∧ X.cell? ⟨w2.heap.size, 4, none⟩ = some (.int .u64 y3) ∧ X.cell? ⟨w2.heap.size, 5, none⟩ = some (.slice sa sn sc) ∧ X.cell? ⟨w2.heap.size, 6, none⟩ = some (.int .i64 lo) ∧ X.cell? ⟨w2.heap.size, 7, none⟩ = some (.int .i64 hi) ∧ X.cell? ⟨w2.heap.size + 1 + 1, 0, none⟩ = some (.int .i64 5) ∧ X.cell? ⟨w2.heap.size + 1 + 1, 1, none⟩ = some (.int .u64 0) ∧ X.cell? ⟨w2.heap.size + 1 + 1, 2, none⟩ = some (.int .u64 0) ∧ X.cell? ⟨w2.heap.size + 1 + 1, 3, none⟩ = some (.int .u64 0) ∧ X.cell? ⟨w2.heap.size + 1 + 1, 4, none⟩ = some (.int .u64 0) ∧ X.cell? ⟨w2.heap.size + 1 + 1, 5, none⟩ = some (.slice (some ⟨w2.heap.size + 1, 0, none⟩) 1 1) ∧ X.cell? ⟨w2.heap.size + 1 + 1, 6, none⟩ = some (.int .i64 0) ∧ X.cell? ⟨w2.heap.size + 1 + 1, 7, none⟩ = some (.int .i64 (-1)) ∧ TK w w2.heap.size (fun _ => True) z y0 y1 y2 y3 sa sn sc lo hi x (w2.heap.size + 1 + 1) (fun _ => True) 5 0 0 0 0 (some ⟨w2.heap.size + 1, 0, none⟩) 1 1 0 (-1) anyN X) (first | exact HC.out _ HK5.out.drew | exact HC.out _ (by assumption) | exact HC.out _ (TK.alloc (by assumption) _) | exact HC.out _ (TK.alloc HK5.out _).drew) (first
        | (go_at_call 15; with_reducible refine (HFI.out _ (by first | assumption | exact HK5.out.drew | exact TK.alloc (by assumption) _ | exact (TK.alloc HK5.out _).drew)).mono ?_; rintro e w7 ⟨rfl, hK7, hb7⟩; (try have hR7 := block_later hb7); (try have hR7 := block_laterD hb7); clear hb7)
        | (go_at_call 13; with_reducible refine (HMA.out _ _ (by first | assumption | exact HK5.out.drew | exact TK.alloc (by assumption) _ | exact (TK.alloc HK5.out _).drew) (by first | assumption | exact block_new _ _ | exact block_newD _ _)).mono ?_; rintro e w8 ⟨rfl, hK8⟩))
      all_goals
        go_wp2_with fail
        go_ret
        exact ⟨by simp, TK.below (by assumption)⟩
    · have h1' : (30 : Int) < s.length := by omega
      go_wp2_with fail
      go_ret
      exact ⟨rfl, by (with_reducible (repeat (first | exact HB2.out | apply bel_alloc | apply bel_put | apply bel_set | apply Below.drew | apply below_drewN | omega)))⟩

end Go.Proofs.Ytjlihidmohokhaa
