/-
  What the document's own Ere answers of any text: the node that the program's Parse answers, or that it is none; no conditions.
-/
import Derived.Test.YtjlihidmohokhaaQExpr
import Derived.Test.YtjlihidmohokhaaQSize
import Derived.Test.YtjlihidmohokhaaECnt
namespace Go.Proofs.Ytjlihidmohokhaa
open Go.RowKit Go.Proofs.Ytjlihidmohokhaa.Gl

/-- what Ere answers -/
def EAns (w w' : World) (e : Ending) : Rs Nd → Prop
  | .ok x _ => ∃ v, e = .returned (.tuple #[v, .int .i64 (-1), .int .i64 0]) ∧ NodeAt w' (w.heap.size ≤ ·) v x ∧ cntN x ≤ 2001
  | .er _ _ => ∃ a c : Int, e = .returned (.tuple #[zeroV, .int .i64 a, .int .i64 c]) ∧ c ≠ 0
theorem RqAt.newAt {w : World} {R : Nat} {p : Tx} (hR : R = w.heap.size) : RqAt (w.alloc (.cells #[.string ⟨p.toArray⟩, .int .i64 0, .int .i64 0, .int .i64 (-1), .int .i64 0] 45)) R p ((0 : Nat) : Int) ((0 : Nat) : Int) (-1) 0 := by
  subst hR
  show (w.heap.push _)[w.heap.size]? = _
  exact Array.getElem?_push_size

set_option maxHeartbeats 8000000 in
theorem ere_any (p : Tx) (w : World) :
    Calls Try.prog 12 #[S p] w fun e w' => Below w.heap.size w w' ∧ EAns w w' e (topE p) := by
  unfold S
  have HZ0 := hidden (Blk.new w (.int .i64 0) (.int .u64 0) (.int .u64 0) (.int .u64 0) (.int .u64 0) (.slice none 0 0) (.int .i64 0) (.int .i64 0))
  have HB0 := hidden (Below.refl w.heap.size w)
  by_cases hl : 1000 < p.length
  · have hli : (1000 : Int) < p.length := by omega
    have HF := hidden (show topE p = .er 0 5 by unfold topE; rw [if_pos hl])
    go_enter Try.func12, Try.ntmps12
    go_wp2_with fail
    refine bodyPost_ret (results_node3 rfl _ _ w.heap.size (.int .i64 0) (.int .u64 0) (.int .u64 0) (.int .u64 0) (.int .u64 0) (.slice none 0 0) (.int .i64 0) (.int .i64 0) rfl (by (with_reducible (repeat (first | exact HZ0.out | exact Blk.newAt (by simp) | apply Blk.alloc | apply Blk.put | apply Blk.putOther | apply Blk.other | apply Blk.drewN | apply Blk.drew | omega))))) rfl ?_
    rw [HF.out]
    exact ⟨by (with_reducible (repeat (first | exact HB0.out | apply bel_alloc | apply bel_put | apply bel_set | apply Below.drew | apply below_drewN | omega))), 0, 5, rfl, by decide⟩
  · have hli : ¬ (1000 : Int) < p.length := by omega
    have hT : topE p = match exprE (grpE 30) p with | .er m c => (Rs.er m c : Rs Nd) | .ok d m => if m < p.length then .er m 2 else if rightN d = true then .ok d m else .er 0 4 := by
      unfold topE
      rw [if_neg hl]
      cases exprE (grpE 30) p <;> rfl
    have HT := hidden hT
    have HX := hidden (qexpr_all 30 0 rfl)
    have hp : p.length ≤ 1000 := by omega
    clear hT
    go_enter Try.func12, Try.ntmps12
    go_wp2_with fail
    refine (HX.out p 0 (w.heap.size + 1) _ hp (Nat.zero_le _) (RqAt.newAt (by simp))).mono ?_
    rintro e w1 ⟨hg1, ha1⟩
    rw [List.drop_zero] at ha1
    have hs1 : w.heap.size + 2 ≤ w1.heap.size := by have := hg1.size; simp at this; omega
    have HB1 := hidden (show Below w.heap.size w w1 from (by (with_reducible (repeat (first | exact HB0.out | apply bel_alloc | apply bel_put | apply bel_set | apply Below.drew | apply below_drewN | omega))) : Below w.heap.size w _).trans (Gr.toBelow hg1 (by simp; omega) (by omega)))
    have HZ1 := hidden (ZeroAt.gr (b := w.heap.size) (by (with_reducible (repeat (first | exact HZ0.out | exact Blk.newAt (by simp) | apply Blk.alloc | apply Blk.put | apply Blk.putOther | apply Blk.other | apply Blk.drewN | apply Blk.drew | omega)))) hg1 (by omega))
    obtain ⟨z0, z1, z2, z3, z4, z5, z6, z7⟩ := HZ1.out.cells
    obtain ⟨f0, f1, f2, f3, f4, f5, f6, f7⟩ := HZ1.out.thawed
    have hzl := HZ1.out.lt
    have HLE := hidden (exprE_le (grpE_tame 30) p)
    cases hx : exprE (grpE 30) p with
    | er m c =>
      rw [hx] at ha1
      obtain ⟨v, x, rfl, hn1, kb, db, bb, cb, hr1, hbb, hcb⟩ := ha1
      obtain ⟨z, y0, y1, y2, y3, sa, sn, sc, lo, hi, rfl⟩ := hn1.shapeI
      have HR1 := hidden hr1
      obtain ⟨r0, r1, r2, r3, r4⟩ := hr1.cells
      have hRl := hr1.lt
      have HF := hidden (show topE p = .er m c by rw [HT.out, hx])
      have HC := hidden hcb
      have hbd : decide (0 ≤ bb) = true := decide_eq_true hbb
      clear hx hr1 hg1 hn1 hcb
      by_cases hkb : kb < p.length
      · go_wp2_with fail
        refine (fail_bad p kb db bb cb (w.heap.size + 1) _ _ _ (by (with_reducible (repeat (first | exact HR1.out | apply RqAt.alloc | apply RqAt.put | apply RqAt.set1 | apply RqAt.set1i | apply RqAt.set2 | apply RqAt.set2i | apply RqAt.set3 | apply RqAt.set4 | apply RqAt.other | apply RqAt.drewN | apply RqAt.drew | exact (Int.natCast_succ _).symm | omega)))) hbb).mono ?_
        rintro e w2 ⟨rfl, rfl⟩
        go_wp2_with fail
        go_region
        go_wp2_with fail
        refine bodyPost_ret (results_node3 rfl _ _ w.heap.size (.int .i64 0) (.int .u64 0) (.int .u64 0) (.int .u64 0) (.int .u64 0) (.slice none 0 0) (.int .i64 0) (.int .i64 0) rfl (by (with_reducible (repeat (first | exact HZ1.out | exact Blk.newAt (by simp) | apply Blk.alloc | apply Blk.put | apply Blk.putOther | apply Blk.other | apply Blk.drewN | apply Blk.drew | omega))))) rfl ?_
        rw [HF.out]
        exact ⟨by (with_reducible (repeat (first | exact HB1.out | apply bel_alloc | apply bel_put | apply bel_set | apply Below.drew | apply below_drewN | omega))), bb, cb, rfl, HC.out⟩
      · go_wp2_with fail
        go_region
        go_wp2_with fail
        refine bodyPost_ret (results_node3 rfl _ _ w.heap.size (.int .i64 0) (.int .u64 0) (.int .u64 0) (.int .u64 0) (.int .u64 0) (.slice none 0 0) (.int .i64 0) (.int .i64 0) rfl (by (with_reducible (repeat (first | exact HZ1.out | exact Blk.newAt (by simp) | apply Blk.alloc | apply Blk.put | apply Blk.putOther | apply Blk.other | apply Blk.drewN | apply Blk.drew | omega))))) rfl ?_
        rw [HF.out]
        exact ⟨by (with_reducible (repeat (first | exact HB1.out | apply bel_alloc | apply bel_put | apply bel_set | apply Below.drew | apply below_drewN | omega))), bb, cb, rfl, HC.out⟩
    | ok x m =>
      rw [hx] at ha1
      obtain ⟨v, rfl, hn1, hr1⟩ := ha1
      rw [Nat.zero_add] at hr1
      obtain ⟨z, y0, y1, y2, y3, sa, sn, sc, lo, hi, rfl⟩ := hn1.shapeI
      have HN1 := hidden (NodeAt.up (n := w.heap.size + 1) hn1 (by simp))
      have HR1 := hidden hr1
      obtain ⟨r0, r1, r2, r3, r4⟩ := hr1.cells
      have hRl := hr1.lt
      have hm := HLE.out
      rw [hx] at hm
      simp only [Rs.len] at hm
      have hcnt : cntN x ≤ 2001 := by have := exprE_few (grpE_few 30) p x m hx; omega
      have hT2 : topE p = if m < p.length then .er m 2 else if rightN x = true then .ok x m else .er 0 4 := by rw [HT.out, hx]
      by_cases hml : m < p.length
      · have HF := hidden (show topE p = .er m 2 by rw [hT2, if_pos hml])
        have hmi : (m : Int) < p.length := by omega
        clear hx hr1 hg1 hn1 hT2
        go_wp2_with fail
        refine (fail_good p m _ (w.heap.size + 1) m 2 _ (by (with_reducible (repeat (first | exact HR1.out | apply RqAt.alloc | apply RqAt.put | apply RqAt.set1 | apply RqAt.set1i | apply RqAt.set2 | apply RqAt.set2i | apply RqAt.set3 | apply RqAt.set4 | apply RqAt.other | apply RqAt.drewN | apply RqAt.drew | exact (Int.natCast_succ _).symm | omega))))).mono ?_
        rintro e w3 ⟨rfl, hr3, hg3⟩
        have HB3 := hidden (show Below w.heap.size w w3 from (by (with_reducible (repeat (first | exact HB1.out | apply bel_alloc | apply bel_put | apply bel_set | apply Below.drew | apply below_drewN | omega))) : Below w.heap.size w _).trans (Gr.toBelow hg3 (by simp; omega) (by omega)))
        have HZ3 := hidden (ZeroAt.gr (b := w.heap.size) (by (with_reducible (repeat (first | exact HZ1.out | exact Blk.newAt (by simp) | apply Blk.alloc | apply Blk.put | apply Blk.putOther | apply Blk.other | apply Blk.drewN | apply Blk.drew | omega)))) hg3 (by omega))
        clear z0 z1 z2 z3 z4 z5 z6 z7 f0 f1 f2 f3 f4 f5 f6 f7 r0 r1 r2 r3 r4
        obtain ⟨z0, z1, z2, z3, z4, z5, z6, z7⟩ := HZ3.out.cells
        obtain ⟨f0, f1, f2, f3, f4, f5, f6, f7⟩ := HZ3.out.thawed
        have hzl3 := HZ3.out.lt
        have hRl3 := hr3.lt
        obtain ⟨r0, r1, r2, r3, r4⟩ := hr3.cells
        have hmd : decide ((0 : Int) ≤ m) = true := decide_eq_true (by omega)
        clear hr3 hg3
        go_wp2_with fail
        go_region
        go_wp2_with fail
        refine bodyPost_ret (results_node3 rfl _ _ w.heap.size (.int .i64 0) (.int .u64 0) (.int .u64 0) (.int .u64 0) (.int .u64 0) (.slice none 0 0) (.int .i64 0) (.int .i64 0) rfl (by (with_reducible (repeat (first | exact HZ3.out | exact Blk.newAt (by simp) | apply Blk.alloc | apply Blk.put | apply Blk.putOther | apply Blk.other | apply Blk.drewN | apply Blk.drew | omega))))) rfl ?_
        rw [HF.out]
        exact ⟨by (with_reducible (repeat (first | exact HB3.out | apply bel_alloc | apply bel_put | apply bel_set | apply Below.drew | apply below_drewN | omega))), m, 2, rfl, by decide⟩
      · have hmi : ¬ (m : Int) < p.length := by omega
        have HF2 := hidden (show topE p = if rightN x = true then .ok x m else .er 0 4 by rw [hT2, if_neg hml])
        have HCN := hidden hcnt
        clear hx hr1 hg1 hn1 hT2 hcnt
        have HBN := hidden (Blk.new w1 (.int .i64 z) (.int .u64 y0) (.int .u64 y1) (.int .u64 y2) (.int .u64 y3) (.slice sa sn sc) (.int .i64 lo) (.int .i64 hi))
        go_wp2_with fail
        refine (qRight_any x _ _ (w.heap.size + 1 ≤ ·) (by (with_reducible (repeat (first | exact HN1.out | apply NodeAt.alloc | apply NodeAt.putN | apply NodeAt.other | apply NodeAt.putO | apply NodeAt.otherO | apply NodeAt.drewN | apply NodeAt.drew | omega)))) (by have := HCN.out; omega)).mono ?_
        rintro e w2 ⟨rfl, hb2⟩
        have HB2 := hidden (show Below w.heap.size w w2 from (by (with_reducible (repeat (first | exact HB1.out | apply bel_alloc | apply bel_put | apply bel_set | apply Below.drew | apply below_drewN | omega))) : Below w.heap.size w _).trans (hb2.mono (by simp; omega)))
        have HZ2 := hidden (ZeroAt.later (b := w.heap.size) (by (with_reducible (repeat (first | exact HZ1.out | exact Blk.newAt (by simp) | apply Blk.alloc | apply Blk.put | apply Blk.putOther | apply Blk.other | apply Blk.drewN | apply Blk.drew | omega)))) hb2)
        have HN2 := hidden (NodeAt.later (A := (w.heap.size + 1 ≤ ·)) (v := .agg #[.int .i64 z, .int .u64 y0, .int .u64 y1, .int .u64 y2, .int .u64 y3, .slice sa sn sc, .int .i64 lo, .int .i64 hi]) (d := x) (by (with_reducible (repeat (first | exact HN1.out | apply NodeAt.alloc | apply NodeAt.putN | apply NodeAt.other | apply NodeAt.putO | apply NodeAt.otherO | apply NodeAt.drewN | apply NodeAt.drew | omega)))) hb2)
        have HBN2 := hidden (Blk.later HBN.out hb2)
        clear z0 z1 z2 z3 z4 z5 z6 z7 f0 f1 f2 f3 f4 f5 f6 f7 hb2
        obtain ⟨z0, z1, z2, z3, z4, z5, z6, z7⟩ := HZ2.out.cells
        obtain ⟨f0, f1, f2, f3, f4, f5, f6, f7⟩ := HZ2.out.thawed
        obtain ⟨b0, b1, b2, b3, b4, b5, b6, b7⟩ := HBN2.out.cells
        cases hr : rightN x with
        | false =>
          have HF := hidden (show topE p = .er 0 4 by rw [HF2.out, hr]; rfl)
          clear hr
          go_wp2_with fail
          refine bodyPost_ret (results_node3 rfl _ _ w.heap.size (.int .i64 0) (.int .u64 0) (.int .u64 0) (.int .u64 0) (.int .u64 0) (.slice none 0 0) (.int .i64 0) (.int .i64 0) rfl (by (with_reducible (repeat (first | exact HZ2.out | exact Blk.newAt (by simp) | apply Blk.alloc | apply Blk.put | apply Blk.putOther | apply Blk.other | apply Blk.drewN | apply Blk.drew | omega))))) rfl ?_
          rw [HF.out]
          exact ⟨by (with_reducible (repeat (first | exact HB2.out | apply bel_alloc | apply bel_put | apply bel_set | apply Below.drew | apply below_drewN | omega))), 0, 4, rfl, by decide⟩
        | true =>
          have HF := hidden (show topE p = .ok x m by rw [HF2.out, hr]; rfl)
          clear hr
          go_wp2_with fail
          refine bodyPost_ret (results_node3 rfl _ _ w.heap.size (.int .i64 z) (.int .u64 y0) (.int .u64 y1) (.int .u64 y2) (.int .u64 y3) (.slice sa sn sc) (.int .i64 lo) (.int .i64 hi) rfl (by (with_reducible (repeat (first | exact HZ2.out | exact Blk.newAt (by simp) | apply Blk.alloc | apply Blk.put | apply Blk.putOther | apply Blk.other | apply Blk.drewN | apply Blk.drew | omega))))) rfl ?_
          rw [HF.out]
          exact ⟨by (with_reducible (repeat (first | exact HB2.out | apply bel_alloc | apply bel_put | apply bel_set | apply Below.drew | apply below_drewN | omega))), _, rfl, by refine NodeAt.up (m := w.heap.size + 1) ?_ (by omega); (with_reducible (repeat (first | exact HN2.out | apply NodeAt.alloc | apply NodeAt.putN | apply NodeAt.other | apply NodeAt.putO | apply NodeAt.otherO | apply NodeAt.drewN | apply NodeAt.drew | omega))), HCN.out⟩

end Go.Proofs.Ytjlihidmohokhaa
