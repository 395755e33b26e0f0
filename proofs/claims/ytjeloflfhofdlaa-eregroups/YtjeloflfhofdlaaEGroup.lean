/-
  What the program's group answers, where its expression answers as it should: an expression between brackets; conditions: the text's length, and that the reader's block holds it.
-/
import Derived.Test.YtjeloflfhofdlaaESet
namespace Go.Proofs.Ytjeloflfhofdlaa
open Go.RowKit Go.Proofs.Ytjeloflfhofdlaa.Gl

theorem meetB_is (p : Tx) (k : Nat) (c : UInt8) (hc : c ≠ 0) : meetB p k c = ((p.drop k).getD 0 0 == c) := by
  unfold meetB
  rw [getD_byte]
  by_cases h : k < p.length
  · simp [h]
  · rw [getD_out (by omega)]
    simp [h]
    exact fun e => hc e.symm
/-- an answer's value, laid open -/
theorem NodeAt.shape {w : World} {A : Nat → Prop} {v : Value} {x : Nd} (h : NodeAt w A v x) : ∃ k f a n cp lo hi, v = nodeV k f (.slice a n cp) lo hi := by
  obtain ⟨k, f, kids, lo, hi⟩ := x
  obtain ⟨kv, rfl, a, cap, vs, rfl, _⟩ := h.open
  exact ⟨k, f, a, _, cap, lo, hi, rfl⟩

set_option maxHeartbeats 4000000 in
theorem group_none (o : Nat) (ho : o = 30) : Reads 41 (grpE 0) (o : Int) := by
  intro p k R w hp hk hr
  subst ho
  have hR := hr.lt
  obtain ⟨r0, r1, r2⟩ := hr.cells
  have HR0 := hidden hr
  clear hr
  go_enter Try.func41, Try.ntmps41
  go_wp2_with fail
  refine bodyPost_ret (results_node2 rfl _ _ w.heap.size (.int .i64 0) (.int .u64 0) (.int .u64 0) (.int .u64 0) (.int .u64 0) (.slice none 0 0) (.int .i64 0) (.int .i64 0) rfl (by exact Blk.new _ _ _ _ _ _ _ _ _)) rfl ?_
  exact ⟨by (with_reducible (repeat (first | exact Gr.refl _ _ | apply Gr.alloc | apply Gr.put | apply Gr.own | apply Gr.new | apply Gr.drewN | apply Gr.drew | omega))), rfl, by decide, ((30 : Nat) : Int), by rw [Nat.add_zero]; (with_reducible (repeat (first | exact HR0.out | apply RdAt.alloc | apply RdAt.put | apply RdAt.set1 | apply RdAt.set1i | apply RdAt.set2 | apply RdAt.set2i | apply RdAt.other | apply RdAt.drewN | apply RdAt.drew | exact (Int.natCast_succ _).symm | omega)))⟩

set_option maxHeartbeats 4000000 in
theorem group_some (d o : Nat) (ho : o + (d + 1) = 30) (hexp : ReadsTo 17 (exprE (grpE d)) ((o + 1 : Nat) : Int)) : Reads 41 (grpE (d + 1)) (o : Int) := by
  intro p k R w hp hk hr
  have hR := hr.lt
  obtain ⟨r0, r1, r2⟩ := hr.cells
  obtain ⟨t0, t1, t2⟩ := hr.thawed
  have HR0 := hidden hr
  have HX := hidden hexp
  have h30 : ¬ (o : Int) = 30 := by omega
  have h30b : ((o : Int) == 30) = false := by rw [beq_eq_false_iff_ne]; exact h30
  have HD := hidden (show (p.drop k).drop 1 = p.drop (k + 1) by rw [List.drop_drop])
  clear hr hexp
  go_enter Try.func41, Try.ntmps41
  go_wp2_with fail
  refine (HX.out p (k + 1) R _ hp (by omega) (by (with_reducible (repeat (first | exact HR0.out | apply RdAt.alloc | apply RdAt.put | apply RdAt.set1 | apply RdAt.set1i | apply RdAt.set2 | apply RdAt.set2i | apply RdAt.other | apply RdAt.drewN | apply RdAt.drew | exact (Int.natCast_succ _).symm | omega))))).mono ?_
  rintro e w1 ⟨hg1, ha1⟩
  have HZ0 := hidden (Blk.new w (.int .i64 0) (.int .u64 0) (.int .u64 0) (.int .u64 0) (.int .u64 0) (.slice none 0 0) (.int .i64 0) (.int .i64 0))
  have hs1 : w.heap.size + 1 ≤ w1.heap.size := by have := hg1.size; simpa using this
  have HG1 := hidden (Gr.tr (a := w) (by (with_reducible (repeat (first | exact Gr.refl _ _ | apply Gr.alloc | apply Gr.put | apply Gr.own | apply Gr.new | apply Gr.drewN | apply Gr.drew | omega)))) hg1)
  have HZ1 := hidden (ZeroAt.gr (b := w.heap.size) (by (with_reducible (repeat (first | exact HZ0.out | (apply Blk.newAt; simp; done) | apply Blk.alloc | apply Blk.put | apply Blk.putOther | apply Blk.other | apply Blk.drewN | apply Blk.drew | omega)))) hg1 (by omega))
  obtain ⟨z0, z1, z2, z3, z4, z5, z6, z7⟩ := HZ1.out.cells
  obtain ⟨f0, f1, f2, f3, f4, f5, f6, f7⟩ := HZ1.out.thawed
  have hzl := HZ1.out.lt
  cases hx : exprE (grpE d) (p.drop (k + 1)) with
  | er m c =>
    rw [hx] at ha1
    obtain ⟨rfl, hc, o', hr1⟩ := ha1
    have HR1 := hidden hr1
    have HA := hidden (show grpE (d + 1) (p.drop k) = .er (1 + m) c by unfold grpE; rw [HD.out, hx])
    have hcb : ((c : Int) != 0) = true := by rw [bne_iff_ne]; omega
    have HC := hidden hc
    rw [zeroV_is]
    clear hx hr1 hg1 hc
    go_wp2_with fail
    refine bodyPost_ret (results_node2 rfl _ _ w.heap.size (.int .i64 0) (.int .u64 0) (.int .u64 0) (.int .u64 0) (.int .u64 0) (.slice none 0 0) (.int .i64 0) (.int .i64 0) rfl (by (with_reducible (repeat (first | exact HZ1.out | (apply Blk.newAt; simp; done) | apply Blk.alloc | apply Blk.put | apply Blk.putOther | apply Blk.other | apply Blk.drewN | apply Blk.drew | omega))))) rfl ?_
    rw [HA.out]
    exact ⟨by (with_reducible (repeat (first | exact HG1.out | apply Gr.alloc | apply Gr.put | apply Gr.own | apply Gr.new | apply Gr.drewN | apply Gr.drew | omega))), rfl, HC.out, o', by rw [show k + (1 + m) = k + 1 + m by omega]; (with_reducible (repeat (first | exact HR1.out | apply RdAt.alloc | apply RdAt.put | apply RdAt.set1 | apply RdAt.set1i | apply RdAt.set2 | apply RdAt.set2i | apply RdAt.other | apply RdAt.drewN | apply RdAt.drew | exact (Int.natCast_succ _).symm | omega)))⟩
  | ok x m =>
    rw [hx] at ha1
    obtain ⟨v, rfl, hn1, hr1⟩ := ha1
    obtain ⟨kk, f, sa, sn, sc, lo, hi, rfl⟩ := hn1.shape
    have HN1 := hidden (NodeAt.up (n := w.heap.size + 1) hn1 (by simp))
    have HR1 := hidden hr1
    have hm := exprE_le (grpE_tame d) (p.drop (k + 1))
    rw [hx, List.length_drop] at hm
    simp only [Rs.len] at hm
    obtain ⟨q, hq⟩ : ∃ q, q = k + 1 + m := ⟨_, rfl⟩
    rw [← hq] at HR1
    have hqp : q ≤ p.length := by omega
    have HQ := hidden hq
    have HMB := hidden (meetB_is p q 41 (by decide))
    cases hmb : ((p.drop q).getD 0 0 == 41) with
    | false =>
      have HA := hidden (show grpE (d + 1) (p.drop k) = .er (1 + m) 2 by
        unfold grpE; rw [HD.out, hx]
        simp only []
        rw [if_neg (by rw [List.drop_drop, show k + (1 + m) = q by omega]; simpa using hmb)])
      have HM := hidden (HMB.out.trans hmb)
      unfold nodeV at HN1 ⊢
      clear hx hr1 hg1 hn1 hmb hm HMB hq
      go_wp2_with fail
      refine (meets_any p q R _ 41 _ (by omega) (by (with_reducible (repeat (first | exact HR1.out | apply RdAt.alloc | apply RdAt.put | apply RdAt.set1 | apply RdAt.set1i | apply RdAt.set2 | apply RdAt.set2i | apply RdAt.other | apply RdAt.drewN | apply RdAt.drew | exact (Int.natCast_succ _).symm | omega))))).mono ?_
      rintro e w2 ⟨rfl, nq, rfl⟩
      rw [HM.out]
      go_wp2_with fail
      refine bodyPost_ret (results_node2 rfl _ _ w.heap.size (.int .i64 0) (.int .u64 0) (.int .u64 0) (.int .u64 0) (.int .u64 0) (.slice none 0 0) (.int .i64 0) (.int .i64 0) rfl (by (with_reducible (repeat (first | exact HZ1.out | (apply Blk.newAt; simp; done) | apply Blk.alloc | apply Blk.put | apply Blk.putOther | apply Blk.other | apply Blk.drewN | apply Blk.drew | omega))))) rfl ?_
      rw [HA.out]
      exact ⟨by (with_reducible (repeat (first | exact HG1.out | apply Gr.alloc | apply Gr.put | apply Gr.own | apply Gr.new | apply Gr.drewN | apply Gr.drew | omega))), rfl, by decide, _, by rw [show k + (1 + m) = q by have := HQ.out; omega]; (with_reducible (repeat (first | exact HR1.out | apply RdAt.alloc | apply RdAt.put | apply RdAt.set1 | apply RdAt.set1i | apply RdAt.set2 | apply RdAt.set2i | apply RdAt.other | apply RdAt.drewN | apply RdAt.drew | exact (Int.natCast_succ _).symm | omega)))⟩
    | true =>
      have HA := hidden (show grpE (d + 1) (p.drop k) = .ok x (m + 2) by
        unfold grpE; rw [HD.out, hx]
        simp only []
        rw [if_pos (by rw [List.drop_drop, show k + (1 + m) = q by omega]; simpa using hmb)])
      have HM := hidden (HMB.out.trans hmb)
      unfold nodeV at HN1 ⊢
      clear hx hr1 hg1 hn1 hmb hm HMB hq
      go_wp2_with fail
      refine (meets_any p q R _ 41 _ (by omega) (by (with_reducible (repeat (first | exact HR1.out | apply RdAt.alloc | apply RdAt.put | apply RdAt.set1 | apply RdAt.set1i | apply RdAt.set2 | apply RdAt.set2i | apply RdAt.other | apply RdAt.drewN | apply RdAt.drew | exact (Int.natCast_succ _).symm | omega))))).mono ?_
      rintro e w2 ⟨rfl, nq, rfl⟩
      rw [HM.out]
      obtain ⟨s0, s1, s2⟩ := HR1.out.cells
      obtain ⟨v0, v1, v2⟩ := HR1.out.thawed
      have hRl := HR1.out.lt
      go_wp2_with fail
      refine bodyPost_ret (results_node2 rfl _ _ w.heap.size (.int .i64 kk) (.int .u64 (word f 0)) (.int .u64 (word f 1)) (.int .u64 (word f 2)) (.int .u64 (word f 3)) (.slice sa sn sc) (.int .i64 lo) (.int .i64 hi) rfl (by (with_reducible (repeat (first | exact HZ1.out | (apply Blk.newAt; simp; done) | apply Blk.alloc | apply Blk.put | apply Blk.putOther | apply Blk.other | apply Blk.drewN | apply Blk.drew | omega))))) rfl ?_
      rw [HA.out]
      exact ⟨by (with_reducible (repeat (first | exact HG1.out | apply Gr.alloc | apply Gr.put | apply Gr.own | apply Gr.new | apply Gr.drewN | apply Gr.drew | omega))), _, rfl, by refine NodeAt.up (m := w.heap.size + 1) ?_ (by omega); (with_reducible (repeat (first | exact HN1.out | apply NodeAt.alloc | apply NodeAt.putN | apply NodeAt.other | apply NodeAt.putO | apply NodeAt.otherO | apply NodeAt.drewN | apply NodeAt.drew | omega))), by rw [show k + (m + 2) = q + 1 by have := HQ.out; omega]; (with_reducible (repeat (first | exact HR1.out | apply RdAt.alloc | apply RdAt.put | apply RdAt.set1 | apply RdAt.set1i | apply RdAt.set2 | apply RdAt.set2i | apply RdAt.other | apply RdAt.drewN | apply RdAt.drew | exact (Int.natCast_succ _).symm | omega)))⟩

end Go.Proofs.Ytjeloflfhofdlaa
