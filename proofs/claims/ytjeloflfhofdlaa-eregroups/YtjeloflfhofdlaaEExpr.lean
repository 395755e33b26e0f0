/-
  What the program's expression answers: branches with a sign between; by induction on how many brackets may be within one another, of group, atom, piece, branch and expression; conditions: the text's length, and that the reader's block holds it.
-/
import Derived.Test.YtjeloflfhofdlaaEBranch
namespace Go.Proofs.Ytjeloflfhofdlaa
open Go.RowKit Go.Proofs.Ytjeloflfhofdlaa.Gl

set_option maxHeartbeats 8000000 in
theorem expr_any (g : Tx → Rs Nd) (o : Nat) (hg : Tame g) (hbr : ReadsTo 24 (branchE g) (o : Int)) : ReadsTo 17 (exprE g) (o : Int) := by
  intro p k R w hp hk hr
  have hR := hr.lt
  have HR0 := hidden hr
  have HZ0 := hidden (Blk.new w (.int .i64 0) (.int .u64 0) (.int .u64 0) (.int .u64 0) (.int .u64 0) (.slice none 0 0) (.int .i64 0) (.int .i64 0))
  have HX := hidden hbr
  have HT := hidden hg
  clear hr hbr hg
  go_enter Try.func17, Try.ntmps17
  go_wp2_with fail
  go_loopw [4] (fun v wr => ∃ (q n : Nat) (vs : List Value) (l : List Nd), q ≤ p.length ∧ k ≤ q ∧ l.length ≤ q - k ∧ Hid (BK w R p q o v vs l wr ∧ (p.drop q).length < n ∧ branchesE g ((p.drop k).length + 1) (p.drop k) = ((branchesE g n (p.drop q)).map (l ++ ·)).far (q - k)))
    (fun _ wr => p.length - posOf wr R)
  case atStart =>
    refine ⟨k, (p.drop k).length + 1, [], [], hk, Nat.le_refl _, Nat.zero_le _, ⟨by (with_reducible (repeat (first | exact Gr.refl _ _ | apply Gr.alloc | apply Gr.put | apply Gr.own | apply Gr.new | apply Gr.drewN | apply Gr.drew | omega))), by (with_reducible (repeat (first | exact HR0.out | apply RdAt.alloc | apply RdAt.put | apply RdAt.set1 | apply RdAt.set1i | apply RdAt.set2 | apply RdAt.set2i | apply RdAt.other | apply RdAt.drewN | apply RdAt.drew | exact (Int.natCast_succ _).symm | omega))), by (with_reducible (repeat (first | exact HZ0.out | (apply Blk.newAt; simp; done) | apply Blk.alloc | apply Blk.put | apply Blk.putOther | apply Blk.other | apply Blk.drewN | apply Blk.drew | omega))), LN.nil _ _⟩, by omega, ?_⟩
    rw [Nat.sub_self, far_zero]
    cases branchesE g ((p.drop k).length + 1) (p.drop k) <;> rfl
  case round =>
    obtain ⟨q, n, vs, l, hq, hkq, hll, hK0, hn, hpost⟩ := hrel
    have HK0 := hidden hK0
    have HP := hidden hpost
    have HK := HK0
    rw [List.length_drop] at hn
    clear hK0 hpost
    obtain ⟨n, rfl⟩ : ∃ m, n = m + 1 := ⟨n - 1, by omega⟩
    have hRl := HK.out.rd.lt
    have hZl := HK.out.zero.lt
    obtain ⟨r0, r1, r2⟩ := HK.out.rd.cells
    obtain ⟨t0, t1, t2⟩ := HK.out.rd.thawed
    obtain ⟨z0, z1, z2, z3, z4, z5, z6, z7⟩ := HK.out.zero.cells
    obtain ⟨f0, f1, f2, f3, f4, f5, f6, f7⟩ := HK.out.zero.thawed
    have HP1 := hidden (show branchesE g ((p.drop k).length + 1) (p.drop k) = ((match branchE g (p.drop q) with | .er m c => (Rs.er m c : Rs (List Nd)) | .ok d m => if ((p.drop q).drop m).getD 0 0 = 124 then ((branchesE g n ((p.drop q).drop (m + 1))).map (d :: ·)).far (m + 1) else .ok [d] m).map (l ++ ·)).far (q - k) by
      rw [HP.out, branchesE]
      cases branchE g (p.drop q) <;> rfl)
    have HTM := hidden (branchE_le HT.out (p.drop q))
    go_wp2_with fail
    refine (HX.out p q R _ hp hq (by (with_reducible (repeat (first | exact HK.out.rd | apply RdAt.alloc | apply RdAt.put | apply RdAt.set1 | apply RdAt.set1i | apply RdAt.set2 | apply RdAt.set2i | apply RdAt.other | apply RdAt.drewN | apply RdAt.drew | exact (Int.natCast_succ _).symm | omega))))).mono ?_
    rintro e w1 ⟨hg1, ha1⟩
    have hs1 : wr.heap.size ≤ w1.heap.size := hg1.size
    have HG1 := hidden (Gr.tr (a := w) (by (with_reducible (repeat (first | exact HK.out.gr | apply Gr.alloc | apply Gr.put | apply Gr.own | apply Gr.new | apply Gr.drewN | apply Gr.drew | omega)))) hg1)
    have HZ1 := hidden (ZeroAt.gr (b := w.heap.size) (by (with_reducible (repeat (first | exact HK.out.zero | (apply Blk.newAt; simp; done) | apply Blk.alloc | apply Blk.put | apply Blk.putOther | apply Blk.other | apply Blk.drewN | apply Blk.drew | omega)))) hg1 (by omega))
    have HL1 := hidden (LN.gr HK.out.ln hg1 (by omega))
    have hzl1 := HZ1.out.lt
    clear hRl hZl r0 r1 r2 t0 t1 t2 z0 z1 z2 z3 z4 z5 z6 z7 f0 f1 f2 f3 f4 f5 f6 f7
    obtain ⟨z0, z1, z2, z3, z4, z5, z6, z7⟩ := HZ1.out.cells
    obtain ⟨f0, f1, f2, f3, f4, f5, f6, f7⟩ := HZ1.out.thawed
    cases hx : branchE g (p.drop q) with
    | er m c2 =>
      rw [hx] at ha1
      obtain ⟨rfl, hc2, o', hr1⟩ := ha1
      have HR1 := hidden hr1
      have HA := hidden (show exprE g (p.drop k) = .er (q - k + m) c2 by unfold exprE; rw [HP1.out, hx]; rfl)
      have hcb : ((c2 : Int) != 0) = true := by rw [bne_iff_ne]; omega
      have HC := hidden hc2
      rw [zeroV_is]
      clear hx hr1 hg1 hc2
      go_wp2_with fail
      refine bodyPost_ret (results_node2 rfl _ _ w.heap.size (.int .i64 0) (.int .u64 0) (.int .u64 0) (.int .u64 0) (.int .u64 0) (.slice none 0 0) (.int .i64 0) (.int .i64 0) rfl (by (with_reducible (repeat (first | exact HZ1.out | (apply Blk.newAt; simp; done) | apply Blk.alloc | apply Blk.put | apply Blk.putOther | apply Blk.other | apply Blk.drewN | apply Blk.drew | omega))))) rfl ?_
      rw [HA.out]
      exact ⟨by (with_reducible (repeat (first | exact HG1.out | apply Gr.alloc | apply Gr.put | apply Gr.own | apply Gr.new | apply Gr.drewN | apply Gr.drew | omega))), rfl, HC.out, o', by rw [show k + (q - k + m) = q + m by omega]; (with_reducible (repeat (first | exact HR1.out | apply RdAt.alloc | apply RdAt.put | apply RdAt.set1 | apply RdAt.set1i | apply RdAt.set2 | apply RdAt.set2i | apply RdAt.other | apply RdAt.drewN | apply RdAt.drew | exact (Int.natCast_succ _).symm | omega)))⟩
    | ok x m =>
      rw [hx] at ha1
      obtain ⟨u, rfl, hn1, hr1⟩ := ha1
      obtain ⟨z, y0, y1, y2, y3, sa, sn, sc, lo, hi, rfl⟩ := hn1.shapeI
      have hm1 := HTM.out
      rw [hx, List.length_drop] at hm1
      simp only [Rs.len] at hm1
      obtain ⟨q2, hq2⟩ : ∃ q2, q2 = q + m := ⟨_, rfl⟩
      rw [← hq2] at hr1
      have HR1 := hidden hr1
      have hown := HK.out.ln.lt
      have HN1 := hidden (show NodeAt w1 (fun b => w.heap.size + 1 ≤ b ∧ some b ≠ u4.ownBlock) (.agg #[.int .i64 z, .int .u64 y0, .int .u64 y1, .int .u64 y2, .int .u64 y3, .slice sa sn sc, .int .i64 lo, .int .i64 hi]) x from hn1.keep fun b hA _ => ⟨rfl, by have : wr.heap.size ≤ b := hA; have := HK.out.zero.lt; omega, fun e => by have h5 := (hown b e.symm).2; have : wr.heap.size ≤ b := hA; omega⟩)
      have hP2 : branchesE g ((p.drop k).length + 1) (p.drop k) = if (p.drop q2).getD 0 0 = 124 then ((branchesE g n (p.drop (q2 + 1))).map ((l ++ [x]) ++ ·)).far (q2 + 1 - k) else .ok (l ++ [x]) (q2 - k) := by
        rw [HP1.out, hx]
        simp only []
        rw [List.drop_drop, List.drop_drop, ← hq2, show q + (m + 1) = q2 + 1 by omega]
        split
        · rw [map_far, far_far, map_map, show q - k + (m + 1) = q2 + 1 - k by omega]
          congr 2
          funext t
          simp
        · simp only [Rs.map, Rs.far]
          congr 1
          omega
      have hq2p : q2 ≤ p.length := by omega
      have hqq2 : q ≤ q2 := by omega
      have hlen2 : l.length < 1048576 := by omega
      have hlt1 : w.heap.size + 1 ≤ w1.heap.size := by have := HK.out.zero.lt; omega
      have HP2 := hidden hP2
      clear hx hr1 hg1 hn1 hown hm1 hq2 hP2
      go_wp2_with (at_builtin; go_must (refine wpList_append_node _ (by go_simp) (.tmp 16) (.tmp 18) rfl (w.heap.size + 1) _ u4 vs l x (.int .i64 z) (.int .u64 y0) (.int .u64 y1) (.int .u64 y2) (.int .u64 y3) (.slice sa sn sc) (.int .i64 lo) (.int .i64 hi) rfl rfl (by (with_reducible (repeat (first | exact HL1.out | apply LN.alloc | apply LN.put | apply LN.other | apply LN.drewN | apply LN.drew | omega)))) ((HN1.out.alloc _).alloc _) (eight_new _ _ _ _ _ _ _ _ _ _ _ (by simp)) hlen2 (by simp; omega) ?_; intro v9 w9 hln9 hg9))
      have hown9 := HL1.out.lt
      have HG9 := hidden (Gr.grown (R := R) (w := w) (by (with_reducible (repeat (first | exact HG1.out | apply Gr.alloc | apply Gr.put | apply Gr.own | apply Gr.new | apply Gr.drewN | apply Gr.drew | omega)))) hg9 (fun j hj => by have := (hown9 j hj).1; omega))
      have HR9 := hidden (show RdAt w9 R p q2 o from by
        refine RdAt.keep (w := _) (by (with_reducible (repeat (first | exact HR1.out | apply RdAt.alloc | apply RdAt.put | apply RdAt.set1 | apply RdAt.set1i | apply RdAt.set2 | apply RdAt.set2i | apply RdAt.other | apply RdAt.drewN | apply RdAt.drew | exact (Int.natCast_succ _).symm | omega)))) (hg9.block R (by have := HR1.out.lt; simp; omega) (fun e => by have := (hown9 R e.symm).1; omega)))
      have HZ9 := hidden (show ZeroAt w9 w.heap.size from by
        refine Blk.keep (w := _) (by (with_reducible (repeat (first | exact HZ1.out | (apply Blk.newAt; simp; done) | apply Blk.alloc | apply Blk.put | apply Blk.putOther | apply Blk.other | apply Blk.drewN | apply Blk.drew | omega)))) (hg9.block _ (by have := HZ1.out.lt; simp; omega) (fun e => by have := (hown9 _ e.symm).1; omega)))
      have HL9 := hidden hln9
      clear hln9 hg9 hown9 z0 z1 z2 z3 z4 z5 z6 z7 f0 f1 f2 f3 f4 f5 f6 f7
      go_wp2_with fail
      refine (meets_any p q2 R _ 124 _ (by omega) HR9.out).mono ?_
      rintro e wx ⟨rfl, nq, rfl⟩
      rw [meetB_is p q2 124 (by decide)]
      obtain ⟨W2, hW2⟩ : ∃ W, W = w9.drewN nq := ⟨_, rfl⟩
      rw [← hW2]
      have HG2 := hidden (show Gr R w W2 by rw [hW2]; exact HG9.out.drewN nq)
      have HR2 := hidden (show RdAt W2 R p q2 o by rw [hW2]; exact HR9.out.drewN nq)
      have HZ2 := hidden (show ZeroAt W2 w.heap.size by rw [hW2]; exact HZ9.out.drewN nq)
      have HL2 := hidden (show LN (w.heap.size + 1) v9 (vs ++ [.agg #[.int .i64 z, .int .u64 y0, .int .u64 y1, .int .u64 y2, .int .u64 y3, .slice sa sn sc, .int .i64 lo, .int .i64 hi]]) (l ++ [x]) W2 by rw [hW2]; exact HL9.out.drewN nq)
      clear hW2
      obtain ⟨z0, z1, z2, z3, z4, z5, z6, z7⟩ := HZ2.out.cells
      obtain ⟨f0, f1, f2, f3, f4, f5, f6, f7⟩ := HZ2.out.thawed
      have hzl2 := HZ2.out.lt
      have hRl2 := HR2.out.lt
      obtain ⟨r0, r1, r2⟩ := HR2.out.cells
      obtain ⟨t0, t1, t2⟩ := HR2.out.thawed
      cases hmb : ((p.drop q2).getD 0 0 == 124) with
      | true =>
        have h124 : (p.drop q2).getD 0 0 = 124 := by simpa using hmb
        have HP3 := hidden (HP2.out.trans (if_pos h124))
        have hlt2 : q2 < p.length := by
          have := getD_pos h124 (by decide)
          rw [List.length_drop] at this
          omega
        have hlen3 : (l ++ [x]).length ≤ q2 + 1 - k := by rw [List.length_append]; show l.length + 1 ≤ q2 + 1 - k; omega
        clear hmb h124
        go_wp2_with fail
        go_roundw
        case rel => exact ⟨q2 + 1, n, vs ++ [.agg #[.int .i64 z, .int .u64 y0, .int .u64 y1, .int .u64 y2, .int .u64 y3, .slice sa sn sc, .int .i64 lo, .int .i64 hi]], l ++ [x], by omega, by omega, hlen3, ⟨by (with_reducible (repeat (first | exact HG2.out | apply Gr.alloc | apply Gr.put | apply Gr.own | apply Gr.new | apply Gr.drewN | apply Gr.drew | omega))), by (with_reducible (repeat (first | exact HR2.out | apply RdAt.alloc | apply RdAt.put | apply RdAt.set1 | apply RdAt.set1i | apply RdAt.set2 | apply RdAt.set2i | apply RdAt.other | apply RdAt.drewN | apply RdAt.drew | exact (Int.natCast_succ _).symm | omega))), by (with_reducible (repeat (first | exact HZ2.out | (apply Blk.newAt; simp; done) | apply Blk.alloc | apply Blk.put | apply Blk.putOther | apply Blk.other | apply Blk.drewN | apply Blk.drew | omega))), by (with_reducible (repeat (first | exact HL2.out | apply LN.alloc | apply LN.put | apply LN.other | apply LN.drewN | apply LN.drew | omega)))⟩, by rw [List.length_drop]; omega, HP3.out⟩
        case measure => exact RdAt.less (p := p) (k := q) (k' := q2 + 1) (o := (o : Int)) (o' := (o : Int)) (by (with_reducible (repeat (first | exact HR2.out | apply RdAt.alloc | apply RdAt.put | apply RdAt.set1 | apply RdAt.set1i | apply RdAt.set2 | apply RdAt.set2i | apply RdAt.other | apply RdAt.drewN | apply RdAt.drew | exact (Int.natCast_succ _).symm | omega)))) HK0.out.rd (by omega) (by omega)
      | false =>
        have HF := hidden (show exprE g (p.drop k) = .ok (together 4 (l ++ [x])) (q2 - k) by
          unfold exprE
          rw [HP2.out, if_neg (by simpa using hmb)]
          rfl)
        have hlen3 : (l ++ [x]).length ≤ 1048576 := by rw [List.length_append]; show l.length + 1 ≤ 1048576; omega
        have HLEN := hidden hlen3
        clear hmb hlen3
        go_wp2_with fail
        refine (together_any 4 _ (l ++ [x]) (w.heap.size + 1) _ (by exact (LN.kids (by (with_reducible (repeat (first | exact HL2.out | apply LN.alloc | apply LN.put | apply LN.other | apply LN.drewN | apply LN.drew | omega)))))) (by simp) HLEN.out).mono ?_
        rintro e w5 ⟨⟨v5, rfl, hn5⟩, hb5⟩
        obtain ⟨z, y0, y1, y2, y3, sa, sn, sc, lo, hi, rfl⟩ := hn5.shapeI
        have HG5 := hidden (Gr.below (R := R) (w := w) (by (with_reducible (repeat (first | exact HG2.out | apply Gr.alloc | apply Gr.put | apply Gr.own | apply Gr.new | apply Gr.drewN | apply Gr.drew | omega)))) hb5)
        have HR5 := hidden (RdAt.later (R := R) (p := p) (k := q2) (o := (o : Int)) (by (with_reducible (repeat (first | exact HR2.out | apply RdAt.alloc | apply RdAt.put | apply RdAt.set1 | apply RdAt.set1i | apply RdAt.set2 | apply RdAt.set2i | apply RdAt.other | apply RdAt.drewN | apply RdAt.drew | exact (Int.natCast_succ _).symm | omega)))) hb5)
        have HZ5 := hidden (ZeroAt.later (b := w.heap.size) (by (with_reducible (repeat (first | exact HZ2.out | (apply Blk.newAt; simp; done) | apply Blk.alloc | apply Blk.put | apply Blk.putOther | apply Blk.other | apply Blk.drewN | apply Blk.drew | omega)))) hb5)
        have HN5 := hidden hn5
        clear hb5 hn5 z0 z1 z2 z3 z4 z5 z6 z7 f0 f1 f2 f3 f4 f5 f6 f7
        obtain ⟨z0, z1, z2, z3, z4, z5, z6, z7⟩ := HZ5.out.cells
        obtain ⟨f0, f1, f2, f3, f4, f5, f6, f7⟩ := HZ5.out.thawed
        have hzl := HZ5.out.lt
        go_wp2_with fail
        refine bodyPost_ret (results_node2 rfl _ _ w.heap.size (.int .i64 z) (.int .u64 y0) (.int .u64 y1) (.int .u64 y2) (.int .u64 y3) (.slice sa sn sc) (.int .i64 lo) (.int .i64 hi) rfl (by (with_reducible (repeat (first | exact HZ5.out | (apply Blk.newAt; simp; done) | apply Blk.alloc | apply Blk.put | apply Blk.putOther | apply Blk.other | apply Blk.drewN | apply Blk.drew | omega))))) rfl ?_
        rw [HF.out]
        exact ⟨by (with_reducible (repeat (first | exact HG5.out | apply Gr.alloc | apply Gr.put | apply Gr.own | apply Gr.new | apply Gr.drewN | apply Gr.drew | omega))), _, rfl, by refine NodeAt.up (m := w.heap.size + 1) ?_ (by omega); (with_reducible (repeat (first | exact HN5.out | apply NodeAt.alloc | apply NodeAt.putN | apply NodeAt.other | apply NodeAt.putO | apply NodeAt.otherO | apply NodeAt.drewN | apply NodeAt.drew | omega))), by rw [show k + (q2 - k) = q2 by omega]; (with_reducible (repeat (first | exact HR5.out | apply RdAt.alloc | apply RdAt.put | apply RdAt.set1 | apply RdAt.set1i | apply RdAt.set2 | apply RdAt.set2i | apply RdAt.other | apply RdAt.drewN | apply RdAt.drew | exact (Int.natCast_succ _).symm | omega)))⟩

/-- all readers, where so many more brackets may be within one another -/
theorem expr_of (d o : Nat) (hgrp : Reads 41 (grpE d) (o : Int)) : ReadsTo 17 (exprE (grpE d)) (o : Int) :=
  expr_any _ o (grpE_tame d) (branch_any _ o (grpE_tame d) (piece_any _ o (grpE_tame d) (atom_any _ o hgrp)))
theorem expr_all (d : Nat) : ∀ o, o + d = 30 → ReadsTo 17 (exprE (grpE d)) (o : Int) := by
  induction d with
  | zero => intro o ho; exact expr_of 0 o (group_none o (by omega))
  | succ d ih => intro o ho; exact expr_of (d + 1) o (group_some d o ho (ih (o + 1) (by omega)))

end Go.Proofs.Ytjeloflfhofdlaa
