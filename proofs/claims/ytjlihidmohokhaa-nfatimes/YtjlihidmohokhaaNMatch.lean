/-
  What the document's own MatchesNode and FindsNode answer; conditions: how many parts the node has, and the text's length.
-/
import Derived.Test.YtjlihidmohokhaaNReach
import Derived.Test.YtjlihidmohokhaaQSize
namespace Go.Proofs.Ytjlihidmohokhaa
open Go.RowKit Go.Proofs.Ytjlihidmohokhaa.Gl

theorem right_rq {x : Nd} (h : rightN x = true) : rqN x 201 = true := by
  rw [show rightN x = (decide (sizeN x ≤ 20000) && rqN x 201) from rfl] at h
  simp only [Bool.and_eq_true] at h
  exact h.2
/-- does a node take the whole of a text; some stretch of it -/
noncomputable def wholeB (s : Tx) (x : Nd) : Bool := rightN x && dec (toP (tk s x) (fun i => i = 0)) s.length
noncomputable def someB (s : Tx) (x : Nd) : Bool := rightN x && (List.range (s.length + 1)).any (dec (toP (tk s x) (fun i => i ≤ s.length)))
theorem wholeB_is (s : Tx) (x : Nd) : wholeB s x = true ↔ rightN x = true ∧ wholeK s x := by
  unfold wholeB wholeK
  rw [Bool.and_eq_true, dec_true]
  constructor
  · rintro ⟨h, i, e, h2⟩; rw [e] at h2; exact ⟨h, h2⟩
  · rintro ⟨h, h2⟩; exact ⟨h, 0, rfl, h2⟩
theorem someB_is (s : Tx) (x : Nd) : someB s x = true ↔ rightN x = true ∧ someK s x := by
  unfold someB someK
  rw [Bool.and_eq_true, List.any_eq_true]
  constructor
  · rintro ⟨h, j, _, h2⟩
    obtain ⟨i, hi, h3⟩ := dec_true.1 h2
    exact ⟨h, i, j, hi, h3⟩
  · rintro ⟨h, i, j, hi, h3⟩
    exact ⟨h, j, List.mem_range.2 (by have := (tk_between s x i j h3 hi).2; omega), dec_true.2 ⟨i, hi, h3⟩⟩

set_option maxHeartbeats 4000000 in
theorem matches_any (s : Tx) (hs : s.length ≤ 1000) (x : Nd) (v : Value) (w : World) (A : Nat → Prop) (hx : NodeAt w A v x) (hc : cntN x ≤ 1048576) :
    Calls Try.prog 14 #[v, S s] w fun e w' => e = .returned (.bool (wholeB s x)) ∧ Below w.heap.size w w' := by
  obtain ⟨i0, hi0, hz0, hz1, hz2⟩ := info_parts Try.info4
  have HX := hidden hx
  obtain ⟨z, y0, y1, y2, y3, sa, sn, sc, lo, hi, rfl⟩ := hx.shapeI
  have HZ0 := hidden (Blk.new w (.int .i64 z) (.int .u64 y0) (.int .u64 y1) (.int .u64 y2) (.int .u64 y3) (.slice sa sn sc) (.int .i64 lo) (.int .i64 hi))
  have HB0 := hidden (Below.refl w.heap.size w)
  clear hx
  unfold S
  go_enter Try.func14, Try.ntmps14
  go_wp2_with fail
  refine (qRight_any x _ _ A (by (with_reducible (repeat (first | exact HX.out | apply NodeAt.alloc | apply NodeAt.putN | apply NodeAt.other | apply NodeAt.putO | apply NodeAt.otherO | apply NodeAt.drewN | apply NodeAt.drew | omega)))) hc).mono ?_
  rintro e w1 ⟨rfl, hb1⟩
  have HB1 := hidden (show Below w.heap.size w w1 from (by (with_reducible (repeat (first | exact HB0.out | apply bel_alloc | apply bel_put | apply bel_set | apply Below.drew | apply below_drewN | omega))) : Below w.heap.size w _).trans (hb1.mono (by simp)))
  have HZ1 := hidden (Blk.later HZ0.out hb1)
  have HX1 := hidden (NodeAt.later (A := A) (v := .agg #[.int .i64 z, .int .u64 y0, .int .u64 y1, .int .u64 y2, .int .u64 y3, .slice sa sn sc, .int .i64 lo, .int .i64 hi]) (d := x) (by (with_reducible (repeat (first | exact HX.out | apply NodeAt.alloc | apply NodeAt.putN | apply NodeAt.other | apply NodeAt.putO | apply NodeAt.otherO | apply NodeAt.drewN | apply NodeAt.drew | omega)))) hb1)
  clear hb1
  cases hr : rightN x with
  | false =>
    have HF := hidden (show wholeB s x = false by unfold wholeB; rw [hr]; rfl)
    clear hr
    go_wp2_with fail
    go_ret
    exact ⟨by rw [HF.out]; rfl, HB1.out⟩
  | true =>
    have HF := hidden (show wholeB s x = dec (toP (tk s x) (fun i => i = 0)) s.length by unfold wholeB; rw [hr]; rfl)
    have HRQ := hidden (right_rq hr)
    clear hr
    go_upto_region 4 with (at_make; refine wpList_make_full _ rfl _ _ 40 rfl w1.heap.size 4 i0 (.bool false) 1 Try.underlying40 hi0 hz0 hz1 .i64 .i64 _ _ (s.length + 1) rfl rfl (by omega) (by omega) (by rw [hz2]; omega) (by unfold maxLen; omega) (by simp) ?_; intro w2 hown2 hgrow2)
    have hBb : Below w1.heap.size w1 w2 := (Below.refl w1.heap.size w1).grown hgrow2 (Nat.le_refl _) (fun k hk => by cases hk)
    have HT2 := hidden (Bools.of_made hown2)
    have hBc : Below w1.heap.size w1 (w2.setCell ⟨w1.heap.size, 0, none⟩ (.bool true)) := hBb.setCell (p := ⟨w1.heap.size, 0, none⟩) (Nat.le_refl _) _
    have HZ3 := hidden (HZ1.out.later hBc)
    have HX3 := hidden (HX1.out.later hBc)
    have hOl := HZ1.out.lt
    have HB3 := hidden (HB1.out.trans (hBc.mono (Nat.le_of_lt hOl)))
    have t0 := HT2.out.cell (j := 0) (by omega)
    have f0 := HT2.out.thawed 0
    have l0 := HT2.out.lt
    have HT3 := hidden (show Bools (w2.setCell ⟨w1.heap.size, 0, none⟩ (.bool true)) w1.heap.size (s.length + 1) (dec (fun i => i = 0)) from HT2.out.set 0 true _ fun y _ => dec_is (by by_cases e : y = 0 <;> simp [e, none_]))
    clear hown2 hgrow2 hBb hBc HB1 HZ1
    go_upto_region 5 with fail
    generalize hW3 : World.setCell _ _ _ = W3 at *
    obtain ⟨z0, z1, z2, z3, z4, z5, z6, z7⟩ := HZ3.out.cells
    have hl3 := HZ3.out.lt
    clear t0 f0 hW3
    go_wp2_with fail
    refine (reach_any s hs (cntN x) x (Nat.le_refl _) hc 201 HRQ.out (fun i => i = 0) (fun i e => by omega) _ _ _ _ A HX3.out HT3.out).mono ?_
    rintro e w4 ⟨⟨q, cq, rfl, hq, hbo⟩, hb4⟩
    have HB4 := hidden (HB3.out.trans (hb4.mono HB3.out.size))
    have r0 := hbo.cell (j := s.length) (by omega)
    have l4 := hbo.lt
    rw [← HF.out] at r0
    clear hb4 hbo z0 z1 z2 z3 z4 z5 z6 z7
    go_wp2_with fail
    go_ret
    exact ⟨rfl, HB4.out⟩

set_option maxHeartbeats 4000000 in
theorem finds_any (s : Tx) (hs : s.length ≤ 1000) (x : Nd) (v : Value) (w : World) (A : Nat → Prop) (hx : NodeAt w A v x) (hc : cntN x ≤ 1048576) :
    Calls Try.prog 16 #[v, S s] w fun e w' => e = .returned (.bool (someB s x)) ∧ Below w.heap.size w w' := by
  obtain ⟨i0, hi0, hz0, hz1, hz2⟩ := info_parts Try.info4
  have HX := hidden hx
  obtain ⟨z, y0, y1, y2, y3, sa, sn, sc, lo, hi, rfl⟩ := hx.shapeI
  have HZ0 := hidden (Blk.new w (.int .i64 z) (.int .u64 y0) (.int .u64 y1) (.int .u64 y2) (.int .u64 y3) (.slice sa sn sc) (.int .i64 lo) (.int .i64 hi))
  have HB0 := hidden (Below.refl w.heap.size w)
  clear hx
  unfold S
  go_enter Try.func16, Try.ntmps16
  go_wp2_with fail
  refine (qRight_any x _ _ A (by (with_reducible (repeat (first | exact HX.out | apply NodeAt.alloc | apply NodeAt.putN | apply NodeAt.other | apply NodeAt.putO | apply NodeAt.otherO | apply NodeAt.drewN | apply NodeAt.drew | omega)))) hc).mono ?_
  rintro e w1 ⟨rfl, hb1⟩
  have HB1 := hidden (show Below w.heap.size w w1 from (by (with_reducible (repeat (first | exact HB0.out | apply bel_alloc | apply bel_put | apply bel_set | apply Below.drew | apply below_drewN | omega))) : Below w.heap.size w _).trans (hb1.mono (by simp)))
  have HZ1 := hidden (Blk.later HZ0.out hb1)
  have HX1 := hidden (NodeAt.later (A := A) (v := .agg #[.int .i64 z, .int .u64 y0, .int .u64 y1, .int .u64 y2, .int .u64 y3, .slice sa sn sc, .int .i64 lo, .int .i64 hi]) (d := x) (by (with_reducible (repeat (first | exact HX.out | apply NodeAt.alloc | apply NodeAt.putN | apply NodeAt.other | apply NodeAt.putO | apply NodeAt.otherO | apply NodeAt.drewN | apply NodeAt.drew | omega)))) hb1)
  clear hb1
  cases hr : rightN x with
  | false =>
    have HF := hidden (show someB s x = false by unfold someB; rw [hr]; rfl)
    clear hr
    go_wp2_with fail
    go_ret
    exact ⟨by rw [HF.out]; rfl, HB1.out⟩
  | true =>
    have HF := hidden (show someB s x = (List.range (s.length + 1)).any (dec (toP (tk s x) (fun i => i ≤ s.length))) by unfold someB; rw [hr]; rfl)
    have HRQ := hidden (right_rq hr)
    clear hr
    go_upto_region 4 with (at_make; refine wpList_make_full _ rfl _ _ 40 rfl w1.heap.size 4 i0 (.bool false) 1 Try.underlying40 hi0 hz0 hz1 .i64 .i64 _ _ (s.length + 1) rfl rfl (by omega) (by omega) (by rw [hz2]; omega) (by unfold maxLen; omega) (by simp) ?_; intro w2 hown2 hgrow2)
    have HBb := hidden (show Below w1.heap.size w1 w2 from (Below.refl w1.heap.size w1).grown hgrow2 (Nat.le_refl _) (fun k hk => by cases hk))
    have HT2 := hidden (Bools.of_made hown2)
    have hOl := HZ1.out.lt
    clear hown2 hgrow2
    go_wp2_with fail
    go_loopw [6] (fun i wr => ∃ j : Nat, i = .int .i64 j ∧ j ≤ s.length + 1 ∧ Hid (Below w1.heap.size w1 wr ∧ Bools wr w1.heap.size (s.length + 1) (fun y => decide (y < j)))) (fun i _ => s.length + 1 - (intOf i).toNat)
    case atStart => exact ⟨0, rfl, Nat.zero_le _, HBb.out, HT2.out.ext fun y _ => by simp [none_]⟩
    case round =>
      obtain ⟨j, rfl, hj, hrow⟩ := hrel
      by_cases hlt : j < s.length + 1
      · have hji : (j : Int) < (s.length : Int) + 1 := by omega
        have t0 := hrow.out.2.cell hlt
        have f0 := hrow.out.2.thawed j
        have l0 := hrow.out.2.lt
        go_wp2_with fail
        go_roundw
        case rel => exact ⟨j + 1, by go_num, by omega, hrow.out.1.setCell (p := ⟨w1.heap.size, j, none⟩) (Nat.le_refl _) _, hrow.out.2.set j true _ fun y _ => by
          by_cases e : y = j
          · rw [if_pos e]; simp [e]
          · rw [if_neg e, decide_eq_decide]; omega⟩
        case measure => simp [intOf]; omega
      · have hji : ¬ (j : Int) < (s.length : Int) + 1 := by omega
        have HZ3 := hidden (HZ1.out.later hrow.out.1)
        have HX3 := hidden (HX1.out.later hrow.out.1)
        have HB3 := hidden (HB1.out.trans (hrow.out.1.mono (Nat.le_of_lt hOl)))
        have HT3 := hidden (show Bools wr w1.heap.size (s.length + 1) (dec (fun i => i ≤ s.length)) from hrow.out.2.ext fun y hy => dec_is (by simp; omega))
        obtain ⟨z0, z1, z2, z3, z4, z5, z6, z7⟩ := HZ3.out.cells
        have hl3 := HZ3.out.lt
        clear hrow
        go_wp2_with fail
        refine (reach_any s hs (cntN x) x (Nat.le_refl _) hc 201 HRQ.out (fun i => i ≤ s.length) (fun i e => e) _ _ _ _ A HX3.out HT3.out).mono ?_
        rintro e w4 ⟨⟨q, cq, rfl, hq, hbo⟩, hb4⟩
        have HB4 := hidden (HB3.out.trans (hb4.mono HB3.out.size))
        have HQ4 := hidden hbo
        have l4 := hbo.lt
        clear hb4 hbo z0 z1 z2 z3 z4 z5 z6 z7
        go_wp2_with fail
        go_loop [8] (fun i => ∃ k : Nat, i = .int .i64 k ∧ k ≤ s.length + 1 ∧ Hid ((List.range k).any (dec (toP (tk s x) (fun i => i ≤ s.length))) = false)) (fun i => s.length + 1 - (intOf i).toNat)
        case atStart => exact ⟨0, rfl, Nat.zero_le _, rfl⟩
        case round =>
          obtain ⟨k, rfl, hk, HK⟩ := hrel
          by_cases hkl : k < s.length + 1
          · have hki : (k : Int) < (s.length : Int) + 1 := by omega
            have r0 := HQ4.out.cell hkl
            cases hm : dec (toP (tk s x) (fun i => i ≤ s.length)) k with
            | false =>
              have HK2 := hidden (show (List.range (k + 1)).any (dec (toP (tk s x) (fun i => i ≤ s.length))) = false by rw [List.range_succ, List.any_append, HK.out]; simp [hm])
              rw [hm] at r0
              clear hm
              go_wp2_with fail
              first | (go_round; case rel => exact ⟨k + 1, by go_num, by omega, HK2.out⟩; case measure => simp [intOf]; omega) | exact ⟨⟨k + 1, by go_num, by omega, HK2.out⟩, by simp [intOf]; omega⟩
            | true =>
              have HS := hidden (show someB s x = true by rw [HF.out]; exact List.any_eq_true.2 ⟨k, List.mem_range.2 hkl, hm⟩)
              rw [hm] at r0
              clear hm
              go_wp2_with fail
              go_ret
              exact ⟨by rw [HS.out]; rfl, HB4.out⟩
          · have hki : ¬ (k : Int) < (s.length : Int) + 1 := by omega
            have HS := hidden (show someB s x = false by rw [HF.out, show s.length + 1 = k by omega]; exact HK.out)
            go_wp2_with fail
            go_ret
            exact ⟨by rw [HS.out]; rfl, HB4.out⟩

end Go.Proofs.Ytjlihidmohokhaa
