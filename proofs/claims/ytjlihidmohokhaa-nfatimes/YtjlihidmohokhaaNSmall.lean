/-
  What the laws' own 'small' answers; no conditions.
-/
import Derived.Test.YtjlihidmohokhaaNSmall0
import Derived.Test.YtjlihidmohokhaaNQSize
import Derived.Test.YtjlihidmohokhaaNFact2
import Derived.Deep.CutRange
import Derived.BigRegion
import Derived.Test.YtjlihidmohokhaaNMatch
namespace Go.Proofs.Ytjlihidmohokhaa
open Go.RowKit Go.Proofs.Ytjlihidmohokhaa.Gl

/-- how an expression that is not too great is -/
def SmallOk (e : Tx) (x : Nd) : Prop := ∃ m, topE e = .ok x m ∧ e.length ≤ 40 ∧ sizeN x ≤ 500
theorem topE_few {p : Tx} {x : Nd} {m : Nat} (h : topE p = .ok x m) : cntN x ≤ 2 * p.length + 2 := by
  unfold topE at h
  split at h
  · cases h
  · cases hx : exprE (grpE 30) p with
    | er k c => rw [hx] at h; cases h
    | ok d k =>
      rw [hx] at h
      have h1 := exprE_few (grpE_few 30) p d k hx
      have h2 := exprE_le (grpE_tame 30) p
      rw [hx] at h2
      have h3 : k ≤ p.length := h2
      simp only at h
      split at h
      · cases h
      · split at h
        · cases h; omega
        · cases h
theorem SmallOk.facts {e : Tx} {x : Nd} (h : SmallOk e x) : rightN x = true ∧ withinN x 100 = true ∧ sizeN x ≤ 500 ∧ cntN x ≤ 100 := by
  obtain ⟨m, h1, h2, h3⟩ := h
  have h4 := topE_few h1
  have h5 := topE_right h1
  exact ⟨h5, right_small h5 (by omega), h3, by omega⟩
/-- what small answers -/
def SAns (w w' : World) (e : Tx) (en : Ending) : Prop := ∃ v x ok, en = .returned (.tuple #[v, .bool ok]) ∧ NodeAt w' (w.heap.size ≤ ·) v x ∧ (ok = true → SmallOk e x)

set_option maxHeartbeats 4000000 in
theorem small_any (e : Tx) (w : World) (he : e.length ≤ 281474976710656) : Calls Try.prog 17 #[S e] w fun en w' => Below w.heap.size w w' ∧ SAns w w' e en := by
  have HEA := hidden (ere_any e)
  have HB0 := hidden (Below.refl w.heap.size w)
  have HZ0 := hidden (Blk.new w (.int .i64 0) (.int .u64 0) (.int .u64 0) (.int .u64 0) (.int .u64 0) (.slice none 0 0) (.int .i64 0) (.int .i64 0))
  unfold S at HEA ⊢
  go_enter Try.func17, Try.ntmps17
  go_wp2_with fail
  refine (HEA.out _).mono ?_
  rintro en w2 ⟨hb2, ha2⟩
  obtain ⟨vx, x, ax, cx, rfl, hnx, hcx, hex⟩ := ha2.out
  obtain ⟨z, y0, y1, y2, y3, sa, sn, sc, lo, hi, rfl⟩ := hnx.shapeI
  have HB2 := hidden (show Below w.heap.size w w2 from (by (with_reducible (repeat (first | exact HB0.out | apply bel_alloc | apply bel_put | apply bel_set | apply Below.drew | apply below_drewN | omega))) : Below w.heap.size w _).trans (hb2.mono (by simp)))
  have HZ2 := hidden (Blk.later HZ0.out hb2)
  have HN2 := hidden (show NodeAt w2 (w.heap.size + 1 ≤ ·) (.agg #[.int .i64 z, .int .u64 y0, .int .u64 y1, .int .u64 y2, .int .u64 y3, .slice sa sn sc, .int .i64 lo, .int .i64 hi]) x from hnx.keep fun b hA _ => ⟨rfl, by simp at hA; omega⟩)
  have HX2 := hidden (Blk.new w2 (.int .i64 z) (.int .u64 y0) (.int .u64 y1) (.int .u64 y2) (.int .u64 y3) (.slice sa sn sc) (.int .i64 lo) (.int .i64 hi))
  have HEX := hidden hex
  have hc2 : cntN x ≤ 2001 := hcx
  clear hb2 ha2 hnx hcx
  go_upto_region 2 with fail
  generalize hW3 : World.alloc _ _ = W3
  have HB3 := hidden (show Below w.heap.size w W3 by rw [← hW3]; (with_reducible (repeat (first | exact HB2.out | apply bel_alloc | apply bel_put | apply bel_set | apply Below.drew | apply below_drewN | omega))))
  have HZ3 := hidden (show Blk W3 w.heap.size (.int .i64 0) (.int .u64 0) (.int .u64 0) (.int .u64 0) (.int .u64 0) (.slice none 0 0) (.int .i64 0) (.int .i64 0) by rw [← hW3]; (with_reducible (repeat (first | exact HZ2.out | exact Blk.newAt (by simp) | apply Blk.alloc | apply Blk.put | apply Blk.putOther | apply Blk.other | apply Blk.drewN | apply Blk.drew | omega))))
  have HN3 := hidden (show NodeAt W3 (w.heap.size + 1 ≤ ·) (.agg #[.int .i64 z, .int .u64 y0, .int .u64 y1, .int .u64 y2, .int .u64 y3, .slice sa sn sc, .int .i64 lo, .int .i64 hi]) x by rw [← hW3]; (with_reducible (repeat (first | exact HN2.out | apply NodeAt.alloc | apply NodeAt.putN | apply NodeAt.other | apply NodeAt.putO | apply NodeAt.otherO | apply NodeAt.drewN | apply NodeAt.drew | omega))))
  have HX3 := hidden (show Blk W3 w2.heap.size (.int .i64 z) (.int .u64 y0) (.int .u64 y1) (.int .u64 y2) (.int .u64 y3) (.slice sa sn sc) (.int .i64 lo) (.int .i64 hi) by rw [← hW3]; (with_reducible (repeat (first | exact HX2.out | exact Blk.newAt (by simp) | apply Blk.alloc | apply Blk.put | apply Blk.putOther | apply Blk.other | apply Blk.drewN | apply Blk.drew | omega))))
  have hne : w.heap.size < w2.heap.size := HZ2.out.lt
  clear hW3
  obtain ⟨z0, z1, z2, z3, z4, z5, z6, z7⟩ := HX3.out.cells
  have hzl := HX3.out.lt
  obtain ⟨q0, q1, q2, q3, q4, q5, q6, q7⟩ := HZ3.out.cells
  obtain ⟨f0, f1, f2, f3, f4, f5, f6, f7⟩ := HZ3.out.thawed
  have hql := HZ3.out.lt
  by_cases hlen : e.length ≤ 40
  · have hli : (e.length : Int) ≤ 40 := by omega
    by_cases hcz : cx = 0
    · subst hcz
      have HOK := hidden (show ∃ m, topE e = .ok x m from by
        rcases hex with h | h
        · exact absurd rfl h
        · exact h.2)
      clear hex
      generalize hsz : ((min 1073741824 (sizeN x) : Nat) : Int) = sz
      have HSZ := hidden hsz
      clear hsz
      go_region_with (go_at_call 11; refine (qSize_all x _ _ (w.heap.size + 1 ≤ ·) (by (with_reducible (repeat (first | exact HN3.out | apply NodeAt.alloc | apply NodeAt.putN | apply NodeAt.other | apply NodeAt.putO | apply NodeAt.otherO | apply NodeAt.drewN | apply NodeAt.drew | omega)))) (by omega)).mono ?_; rintro en w5 ⟨rfl, hb5⟩; rw [HSZ.out]; have HZ5 := hidden (Blk.later HZ3.out.drew hb5); obtain ⟨t0, t1, t2, t3, t4, t5, t6, t7⟩ := HZ5.out.cells; obtain ⟨u0, u1, u2, u3, u4, u5, u6, u7⟩ := HZ5.out.thawed; have tl := HZ5.out.lt; have HX5 := hidden (Blk.later HX3.out.drew hb5); obtain ⟨r0, r1, r2, r3, r4, r5, r6, r7⟩ := HX5.out.cells; have rl := HX5.out.lt)
      all_goals
        have HB5 := hidden (show Below w.heap.size w w5 from HB3.out.drew.trans (hb5.mono HB3.out.size))
        have HN5 := hidden (NodeAt.later HN3.out.drew hb5)
        clear hb5
        go_wp2_with fail
        refine bodyPost_ret (results_node2 rfl _ _ w.heap.size (.int .i64 z) (.int .u64 y0) (.int .u64 y1) (.int .u64 y2) (.int .u64 y3) (.slice sa sn sc) (.int .i64 lo) (.int .i64 hi) rfl (by (with_reducible (repeat (first | exact HZ5.out | exact Blk.newAt (by simp) | apply Blk.alloc | apply Blk.put | apply Blk.putOther | apply Blk.other | apply Blk.drewN | apply Blk.drew | omega))))) rfl ?_
        exact ⟨by (with_reducible (repeat (first | exact HB5.out | apply bel_alloc | apply bel_put | apply bel_set | apply Below.drew | apply below_drewN | omega))), _, x, decide (sz ≤ 500), rfl, NodeAt.up (m := w.heap.size + 1) (by (with_reducible (repeat (first | exact HN5.out | apply NodeAt.alloc | apply NodeAt.putN | apply NodeAt.other | apply NodeAt.putO | apply NodeAt.otherO | apply NodeAt.drewN | apply NodeAt.drew | omega)))) (by omega), fun h => by
          obtain ⟨m, hm⟩ := HOK.out
          have h5 := of_decide_eq_true h
          have h6 := HSZ.out
          exact ⟨m, hm, hlen, by omega⟩⟩
    · have hci : ¬ cx = 0 := hcz
      have hci2 : (cx == 0) = false := by rw [beq_eq_false_iff_ne]; exact hcz
      go_region
      all_goals
        go_wp2_with fail
        refine bodyPost_ret (results_node2 rfl _ _ w.heap.size (.int .i64 z) (.int .u64 y0) (.int .u64 y1) (.int .u64 y2) (.int .u64 y3) (.slice sa sn sc) (.int .i64 lo) (.int .i64 hi) rfl (by (with_reducible (repeat (first | exact HZ3.out | exact Blk.newAt (by simp) | apply Blk.alloc | apply Blk.put | apply Blk.putOther | apply Blk.other | apply Blk.drewN | apply Blk.drew | omega))))) rfl ?_
        exact ⟨by (with_reducible (repeat (first | exact HB3.out | apply bel_alloc | apply bel_put | apply bel_set | apply Below.drew | apply below_drewN | omega))), _, x, false, rfl, NodeAt.up (m := w.heap.size + 1) (by (with_reducible (repeat (first | exact HN3.out | apply NodeAt.alloc | apply NodeAt.putN | apply NodeAt.other | apply NodeAt.putO | apply NodeAt.otherO | apply NodeAt.drewN | apply NodeAt.drew | omega)))) (by omega), fun h => by cases h⟩
  · have hli : ¬ (e.length : Int) ≤ 40 := by omega
    go_region
    all_goals
      go_wp2_with fail
      refine bodyPost_ret (results_node2 rfl _ _ w.heap.size (.int .i64 z) (.int .u64 y0) (.int .u64 y1) (.int .u64 y2) (.int .u64 y3) (.slice sa sn sc) (.int .i64 lo) (.int .i64 hi) rfl (by (with_reducible (repeat (first | exact HZ3.out | exact Blk.newAt (by simp) | apply Blk.alloc | apply Blk.put | apply Blk.putOther | apply Blk.other | apply Blk.drewN | apply Blk.drew | omega))))) rfl ?_
      exact ⟨by (with_reducible (repeat (first | exact HB3.out | apply bel_alloc | apply bel_put | apply bel_set | apply Below.drew | apply below_drewN | omega))), _, x, false, rfl, NodeAt.up (m := w.heap.size + 1) (by (with_reducible (repeat (first | exact HN3.out | apply NodeAt.alloc | apply NodeAt.putN | apply NodeAt.other | apply NodeAt.putO | apply NodeAt.otherO | apply NodeAt.drewN | apply NodeAt.drew | omega)))) (by omega), fun h => by cases h⟩

end Go.Proofs.Ytjlihidmohokhaa
