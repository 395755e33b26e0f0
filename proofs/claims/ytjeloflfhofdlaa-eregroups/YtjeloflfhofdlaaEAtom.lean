/-
  What the program's atom answers, where its group answers as it should; conditions: the text's length, and that the reader's block holds it.
-/
import Derived.Test.YtjeloflfhofdlaaEGroup
namespace Go.Proofs.Ytjeloflfhofdlaa
open Go.RowKit Go.Proofs.Ytjeloflfhofdlaa.Gl

set_option maxHeartbeats 8000000 in
theorem atom_any (g : Tx → Rs Nd) (o : Nat) (hgrp : Reads 41 g (o : Int)) : Reads 37 (atomE g) (o : Int) := by
  intro p k R w hp hk hr
  have hR := hr.lt
  obtain ⟨r0, r1, r2⟩ := hr.cells
  obtain ⟨t0, t1, t2⟩ := hr.thawed
  have HR0 := hidden hr
  have HZ0 := hidden (Blk.new w (.int .i64 0) (.int .u64 0) (.int .u64 0) (.int .u64 0) (.int .u64 0) (.slice none 0 0) (.int .i64 0) (.int .i64 0))
  clear hr
  have hne : p.drop k ≠ [] := drop_ne hk
  have hli : (k : Int) < p.length := by omega
  obtain ⟨c, hc⟩ : ∃ c, c = p.getD k 0 := ⟨_, rfl⟩
  have hb : ∀ h, (⟨p.toArray⟩ : ByteArray)[k]'h = c := fun h => by rw [byte_at, hc]
  have hcg : (p.drop k).getD 0 0 = c := by rw [getD_byte, hc]
  clear hc hne
  by_cases e40 : c = 40
  · subst e40
    have HX := hidden hgrp
    clear hgrp
    have HA := hidden (show atomE g (p.drop k) = g (p.drop k) by unfold atomE; simp only []; rw [if_pos hcg])
    clear hcg
    go_enter Try.func37, Try.ntmps37
    go_wp2_with fail
    go_quiet (fail)
    go_wp2_with fail
    refine (HX.out p k R _ hp hk (by (with_reducible (repeat (first | exact HR0.out | apply RdAt.alloc | apply RdAt.put | apply RdAt.set1 | apply RdAt.set1i | apply RdAt.set2 | apply RdAt.set2i | apply RdAt.other | apply RdAt.drewN | apply RdAt.drew | exact (Int.natCast_succ _).symm | omega))))).mono ?_
    rintro e w1 ⟨hg1, ha1⟩
    have hs1 : w.heap.size + 1 ≤ w1.heap.size := by have := hg1.size; simpa using this
    have HG1 := hidden (Gr.tr (a := w) (by (with_reducible (repeat (first | exact Gr.refl _ _ | apply Gr.alloc | apply Gr.put | apply Gr.own | apply Gr.new | apply Gr.drewN | apply Gr.drew | omega)))) hg1)
    have HZ1 := hidden (ZeroAt.gr (b := w.heap.size) (by (with_reducible (repeat (first | exact HZ0.out | (apply Blk.newAt; simp; done) | apply Blk.alloc | apply Blk.put | apply Blk.putOther | apply Blk.other | apply Blk.drewN | apply Blk.drew | omega)))) hg1 (by omega))
    obtain ⟨z0, z1, z2, z3, z4, z5, z6, z7⟩ := HZ1.out.cells
    obtain ⟨f0, f1, f2, f3, f4, f5, f6, f7⟩ := HZ1.out.thawed
    have hzl := HZ1.out.lt
    cases hx : g (p.drop k) with
    | er m c2 =>
      rw [hx] at ha1
      obtain ⟨rfl, hc2, o', hr1⟩ := ha1
      have HR1 := hidden hr1
      have HA2 := hidden (HA.out.trans hx)
      have HC := hidden hc2
      rw [zeroV_is]
      clear hx hr1 hg1 hc2
      go_wp2_with fail
      refine bodyPost_ret (results_node2 rfl _ _ w.heap.size (.int .i64 0) (.int .u64 0) (.int .u64 0) (.int .u64 0) (.int .u64 0) (.slice none 0 0) (.int .i64 0) (.int .i64 0) rfl (by (with_reducible (repeat (first | exact HZ1.out | (apply Blk.newAt; simp; done) | apply Blk.alloc | apply Blk.put | apply Blk.putOther | apply Blk.other | apply Blk.drewN | apply Blk.drew | omega))))) rfl ?_
      rw [HA2.out]
      exact ⟨by (with_reducible (repeat (first | exact HG1.out | apply Gr.alloc | apply Gr.put | apply Gr.own | apply Gr.new | apply Gr.drewN | apply Gr.drew | omega))), rfl, HC.out, o', by (with_reducible (repeat (first | exact HR1.out | apply RdAt.alloc | apply RdAt.put | apply RdAt.set1 | apply RdAt.set1i | apply RdAt.set2 | apply RdAt.set2i | apply RdAt.other | apply RdAt.drewN | apply RdAt.drew | exact (Int.natCast_succ _).symm | omega)))⟩
    | ok x m =>
      rw [hx] at ha1
      obtain ⟨v, rfl, hn1, hr1⟩ := ha1
      obtain ⟨kk, f, sa, sn, sc, lo, hi, rfl⟩ := hn1.shape
      have HN1 := hidden (NodeAt.up (n := w.heap.size + 1) hn1 (by simp))
      have HR1 := hidden hr1
      have HA2 := hidden (HA.out.trans hx)
      unfold nodeV at HN1 ⊢
      clear hx hr1 hg1 hn1
      go_wp2_with fail
      refine bodyPost_ret (results_node2 rfl _ _ w.heap.size (.int .i64 kk) (.int .u64 (word f 0)) (.int .u64 (word f 1)) (.int .u64 (word f 2)) (.int .u64 (word f 3)) (.slice sa sn sc) (.int .i64 lo) (.int .i64 hi) rfl (by (with_reducible (repeat (first | exact HZ1.out | (apply Blk.newAt; simp; done) | apply Blk.alloc | apply Blk.put | apply Blk.putOther | apply Blk.other | apply Blk.drewN | apply Blk.drew | omega))))) rfl ?_
      rw [HA2.out]
      exact ⟨by (with_reducible (repeat (first | exact HG1.out | apply Gr.alloc | apply Gr.put | apply Gr.own | apply Gr.new | apply Gr.drewN | apply Gr.drew | omega))), _, rfl, by refine NodeAt.up (m := w.heap.size + 1) ?_ (by omega); (with_reducible (repeat (first | exact HN1.out | apply NodeAt.alloc | apply NodeAt.putN | apply NodeAt.other | apply NodeAt.putO | apply NodeAt.otherO | apply NodeAt.drewN | apply NodeAt.drew | omega))), by (with_reducible (repeat (first | exact HR1.out | apply RdAt.alloc | apply RdAt.put | apply RdAt.set1 | apply RdAt.set1i | apply RdAt.set2 | apply RdAt.set2i | apply RdAt.other | apply RdAt.drewN | apply RdAt.drew | exact (Int.natCast_succ _).symm | omega)))⟩
  clear hgrp
  have n40 := byte_ne (n := 40) e40
  by_cases e91 : c = 91
  · subst e91
    clear e40
    have HA := hidden (show atomE g (p.drop k) = setAtom (p.drop k) by unfold atomE; simp only []; rw [hcg, if_neg (by decide), if_pos rfl]; rfl)
    clear hcg
    go_enter Try.func37, Try.ntmps37
    go_wp2_with fail
    go_quiet (fail)
    go_wp2_with fail
    refine (set_any p k R _ _ hp hk (by (with_reducible (repeat (first | exact HR0.out | apply RdAt.alloc | apply RdAt.put | apply RdAt.set1 | apply RdAt.set1i | apply RdAt.set2 | apply RdAt.set2i | apply RdAt.other | apply RdAt.drewN | apply RdAt.drew | exact (Int.natCast_succ _).symm | omega))))).mono ?_
    rintro e w1 ⟨hg1, ha1⟩
    have hs1 : w.heap.size + 1 ≤ w1.heap.size := by have := hg1.size; simpa using this
    have HG1 := hidden (Gr.tr (a := w) (by (with_reducible (repeat (first | exact Gr.refl _ _ | apply Gr.alloc | apply Gr.put | apply Gr.own | apply Gr.new | apply Gr.drewN | apply Gr.drew | omega)))) hg1)
    have HZ1 := hidden (ZeroAt.gr (b := w.heap.size) (by (with_reducible (repeat (first | exact HZ0.out | (apply Blk.newAt; simp; done) | apply Blk.alloc | apply Blk.put | apply Blk.putOther | apply Blk.other | apply Blk.drewN | apply Blk.drew | omega)))) hg1 (by omega))
    obtain ⟨z0, z1, z2, z3, z4, z5, z6, z7⟩ := HZ1.out.cells
    obtain ⟨f0, f1, f2, f3, f4, f5, f6, f7⟩ := HZ1.out.thawed
    have hzl := HZ1.out.lt
    cases hx : setAtom (p.drop k) with
    | er m c2 =>
      rw [hx] at ha1
      obtain ⟨rfl, hc2, o', hr1⟩ := ha1
      have HR1 := hidden hr1
      have HA2 := hidden (HA.out.trans hx)
      have HC := hidden hc2
      rw [zeroV_is]
      clear hx hr1 hg1 hc2
      go_wp2_with fail
      refine bodyPost_ret (results_node2 rfl _ _ w.heap.size (.int .i64 0) (.int .u64 0) (.int .u64 0) (.int .u64 0) (.int .u64 0) (.slice none 0 0) (.int .i64 0) (.int .i64 0) rfl (by (with_reducible (repeat (first | exact HZ1.out | (apply Blk.newAt; simp; done) | apply Blk.alloc | apply Blk.put | apply Blk.putOther | apply Blk.other | apply Blk.drewN | apply Blk.drew | omega))))) rfl ?_
      rw [HA2.out]
      exact ⟨by (with_reducible (repeat (first | exact HG1.out | apply Gr.alloc | apply Gr.put | apply Gr.own | apply Gr.new | apply Gr.drewN | apply Gr.drew | omega))), rfl, HC.out, o', by (with_reducible (repeat (first | exact HR1.out | apply RdAt.alloc | apply RdAt.put | apply RdAt.set1 | apply RdAt.set1i | apply RdAt.set2 | apply RdAt.set2i | apply RdAt.other | apply RdAt.drewN | apply RdAt.drew | exact (Int.natCast_succ _).symm | omega)))⟩
    | ok x m =>
      rw [hx] at ha1
      obtain ⟨v, rfl, hn1, hr1⟩ := ha1
      obtain ⟨kk, f, sa, sn, sc, lo, hi, rfl⟩ := hn1.shape
      have HN1 := hidden (NodeAt.up (n := w.heap.size + 1) hn1 (by simp))
      have HR1 := hidden hr1
      have HA2 := hidden (HA.out.trans hx)
      unfold nodeV at HN1 ⊢
      clear hx hr1 hg1 hn1
      go_wp2_with fail
      refine bodyPost_ret (results_node2 rfl _ _ w.heap.size (.int .i64 kk) (.int .u64 (word f 0)) (.int .u64 (word f 1)) (.int .u64 (word f 2)) (.int .u64 (word f 3)) (.slice sa sn sc) (.int .i64 lo) (.int .i64 hi) rfl (by (with_reducible (repeat (first | exact HZ1.out | (apply Blk.newAt; simp; done) | apply Blk.alloc | apply Blk.put | apply Blk.putOther | apply Blk.other | apply Blk.drewN | apply Blk.drew | omega))))) rfl ?_
      rw [HA2.out]
      exact ⟨by (with_reducible (repeat (first | exact HG1.out | apply Gr.alloc | apply Gr.put | apply Gr.own | apply Gr.new | apply Gr.drewN | apply Gr.drew | omega))), _, rfl, by refine NodeAt.up (m := w.heap.size + 1) ?_ (by omega); (with_reducible (repeat (first | exact HN1.out | apply NodeAt.alloc | apply NodeAt.putN | apply NodeAt.other | apply NodeAt.putO | apply NodeAt.otherO | apply NodeAt.drewN | apply NodeAt.drew | omega))), by (with_reducible (repeat (first | exact HR1.out | apply RdAt.alloc | apply RdAt.put | apply RdAt.set1 | apply RdAt.set1i | apply RdAt.set2 | apply RdAt.set2i | apply RdAt.other | apply RdAt.drewN | apply RdAt.drew | exact (Int.natCast_succ _).symm | omega)))⟩
  have n91 := byte_ne (n := 91) e91
  have HA0 := hidden (show atomE g (p.drop k) = (if special c = true then .er 0 2 else if c = 94 then .ok (plainN 6) 1 else if c = 36 then .ok (plainN 7) 1 else if c = 46 then .ok (setN (othersB none_)) 1 else if c = 92 then (if (p.drop k).length < 2 then .er 1 2 else .ok (setN (spn ((p.drop k).getD 1 0).toNat ((p.drop k).getD 1 0).toNat)) 2) else .ok (setN (spn c.toNat c.toNat)) 1) by
    unfold atomE; simp only []; rw [hcg, if_neg e40, if_neg e91])
  clear hcg
  by_cases e41 : c = 41
  · subst e41
    have HA := hidden (show atomE g (p.drop k) = .er 0 2 by rw [HA0.out, if_pos (by decide)])
    clear HA0 e40 e91
    go_enter Try.func37, Try.ntmps37
    go_wp2_with fail
    go_quiet (fail)
    go_wp2_with fail
    refine bodyPost_ret (results_node2 rfl _ _ w.heap.size (.int .i64 0) (.int .u64 0) (.int .u64 0) (.int .u64 0) (.int .u64 0) (.slice none 0 0) (.int .i64 0) (.int .i64 0) rfl (by (with_reducible (repeat (first | exact HZ0.out | (apply Blk.newAt; simp; done) | apply Blk.alloc | apply Blk.put | apply Blk.putOther | apply Blk.other | apply Blk.drewN | apply Blk.drew | omega))))) rfl ?_
    rw [HA.out]
    exact ⟨by (with_reducible (repeat (first | exact Gr.refl _ _ | apply Gr.alloc | apply Gr.put | apply Gr.own | apply Gr.new | apply Gr.drewN | apply Gr.drew | omega))), rfl, by decide, _, by rw [Nat.add_zero]; (with_reducible (repeat (first | exact HR0.out | apply RdAt.alloc | apply RdAt.put | apply RdAt.set1 | apply RdAt.set1i | apply RdAt.set2 | apply RdAt.set2i | apply RdAt.other | apply RdAt.drewN | apply RdAt.drew | exact (Int.natCast_succ _).symm | omega)))⟩
  have n41 := byte_ne (n := 41) e41
  by_cases e42 : c = 42
  · subst e42
    have HA := hidden (show atomE g (p.drop k) = .er 0 2 by rw [HA0.out, if_pos (by decide)])
    clear HA0 e40 e91 e41
    go_enter Try.func37, Try.ntmps37
    go_wp2_with fail
    go_quiet (fail)
    go_wp2_with fail
    refine bodyPost_ret (results_node2 rfl _ _ w.heap.size (.int .i64 0) (.int .u64 0) (.int .u64 0) (.int .u64 0) (.int .u64 0) (.slice none 0 0) (.int .i64 0) (.int .i64 0) rfl (by (with_reducible (repeat (first | exact HZ0.out | (apply Blk.newAt; simp; done) | apply Blk.alloc | apply Blk.put | apply Blk.putOther | apply Blk.other | apply Blk.drewN | apply Blk.drew | omega))))) rfl ?_
    rw [HA.out]
    exact ⟨by (with_reducible (repeat (first | exact Gr.refl _ _ | apply Gr.alloc | apply Gr.put | apply Gr.own | apply Gr.new | apply Gr.drewN | apply Gr.drew | omega))), rfl, by decide, _, by rw [Nat.add_zero]; (with_reducible (repeat (first | exact HR0.out | apply RdAt.alloc | apply RdAt.put | apply RdAt.set1 | apply RdAt.set1i | apply RdAt.set2 | apply RdAt.set2i | apply RdAt.other | apply RdAt.drewN | apply RdAt.drew | exact (Int.natCast_succ _).symm | omega)))⟩
  have n42 := byte_ne (n := 42) e42
  by_cases e43 : c = 43
  · subst e43
    have HA := hidden (show atomE g (p.drop k) = .er 0 2 by rw [HA0.out, if_pos (by decide)])
    clear HA0 e40 e91 e41 e42
    go_enter Try.func37, Try.ntmps37
    go_wp2_with fail
    go_quiet (fail)
    go_wp2_with fail
    refine bodyPost_ret (results_node2 rfl _ _ w.heap.size (.int .i64 0) (.int .u64 0) (.int .u64 0) (.int .u64 0) (.int .u64 0) (.slice none 0 0) (.int .i64 0) (.int .i64 0) rfl (by (with_reducible (repeat (first | exact HZ0.out | (apply Blk.newAt; simp; done) | apply Blk.alloc | apply Blk.put | apply Blk.putOther | apply Blk.other | apply Blk.drewN | apply Blk.drew | omega))))) rfl ?_
    rw [HA.out]
    exact ⟨by (with_reducible (repeat (first | exact Gr.refl _ _ | apply Gr.alloc | apply Gr.put | apply Gr.own | apply Gr.new | apply Gr.drewN | apply Gr.drew | omega))), rfl, by decide, _, by rw [Nat.add_zero]; (with_reducible (repeat (first | exact HR0.out | apply RdAt.alloc | apply RdAt.put | apply RdAt.set1 | apply RdAt.set1i | apply RdAt.set2 | apply RdAt.set2i | apply RdAt.other | apply RdAt.drewN | apply RdAt.drew | exact (Int.natCast_succ _).symm | omega)))⟩
  have n43 := byte_ne (n := 43) e43
  by_cases e63 : c = 63
  · subst e63
    have HA := hidden (show atomE g (p.drop k) = .er 0 2 by rw [HA0.out, if_pos (by decide)])
    clear HA0 e40 e91 e41 e42 e43
    go_enter Try.func37, Try.ntmps37
    go_wp2_with fail
    go_quiet (fail)
    go_wp2_with fail
    refine bodyPost_ret (results_node2 rfl _ _ w.heap.size (.int .i64 0) (.int .u64 0) (.int .u64 0) (.int .u64 0) (.int .u64 0) (.slice none 0 0) (.int .i64 0) (.int .i64 0) rfl (by (with_reducible (repeat (first | exact HZ0.out | (apply Blk.newAt; simp; done) | apply Blk.alloc | apply Blk.put | apply Blk.putOther | apply Blk.other | apply Blk.drewN | apply Blk.drew | omega))))) rfl ?_
    rw [HA.out]
    exact ⟨by (with_reducible (repeat (first | exact Gr.refl _ _ | apply Gr.alloc | apply Gr.put | apply Gr.own | apply Gr.new | apply Gr.drewN | apply Gr.drew | omega))), rfl, by decide, _, by rw [Nat.add_zero]; (with_reducible (repeat (first | exact HR0.out | apply RdAt.alloc | apply RdAt.put | apply RdAt.set1 | apply RdAt.set1i | apply RdAt.set2 | apply RdAt.set2i | apply RdAt.other | apply RdAt.drewN | apply RdAt.drew | exact (Int.natCast_succ _).symm | omega)))⟩
  have n63 := byte_ne (n := 63) e63
  by_cases e123 : c = 123
  · subst e123
    have HA := hidden (show atomE g (p.drop k) = .er 0 2 by rw [HA0.out, if_pos (by decide)])
    clear HA0 e40 e91 e41 e42 e43 e63
    go_enter Try.func37, Try.ntmps37
    go_wp2_with fail
    go_quiet (fail)
    go_wp2_with fail
    refine bodyPost_ret (results_node2 rfl _ _ w.heap.size (.int .i64 0) (.int .u64 0) (.int .u64 0) (.int .u64 0) (.int .u64 0) (.slice none 0 0) (.int .i64 0) (.int .i64 0) rfl (by (with_reducible (repeat (first | exact HZ0.out | (apply Blk.newAt; simp; done) | apply Blk.alloc | apply Blk.put | apply Blk.putOther | apply Blk.other | apply Blk.drewN | apply Blk.drew | omega))))) rfl ?_
    rw [HA.out]
    exact ⟨by (with_reducible (repeat (first | exact Gr.refl _ _ | apply Gr.alloc | apply Gr.put | apply Gr.own | apply Gr.new | apply Gr.drewN | apply Gr.drew | omega))), rfl, by decide, _, by rw [Nat.add_zero]; (with_reducible (repeat (first | exact HR0.out | apply RdAt.alloc | apply RdAt.put | apply RdAt.set1 | apply RdAt.set1i | apply RdAt.set2 | apply RdAt.set2i | apply RdAt.other | apply RdAt.drewN | apply RdAt.drew | exact (Int.natCast_succ _).symm | omega)))⟩
  have n123 := byte_ne (n := 123) e123
  by_cases e124 : c = 124
  · subst e124
    have HA := hidden (show atomE g (p.drop k) = .er 0 2 by rw [HA0.out, if_pos (by decide)])
    clear HA0 e40 e91 e41 e42 e43 e63 e123
    go_enter Try.func37, Try.ntmps37
    go_wp2_with fail
    go_quiet (fail)
    go_wp2_with fail
    refine bodyPost_ret (results_node2 rfl _ _ w.heap.size (.int .i64 0) (.int .u64 0) (.int .u64 0) (.int .u64 0) (.int .u64 0) (.slice none 0 0) (.int .i64 0) (.int .i64 0) rfl (by (with_reducible (repeat (first | exact HZ0.out | (apply Blk.newAt; simp; done) | apply Blk.alloc | apply Blk.put | apply Blk.putOther | apply Blk.other | apply Blk.drewN | apply Blk.drew | omega))))) rfl ?_
    rw [HA.out]
    exact ⟨by (with_reducible (repeat (first | exact Gr.refl _ _ | apply Gr.alloc | apply Gr.put | apply Gr.own | apply Gr.new | apply Gr.drewN | apply Gr.drew | omega))), rfl, by decide, _, by rw [Nat.add_zero]; (with_reducible (repeat (first | exact HR0.out | apply RdAt.alloc | apply RdAt.put | apply RdAt.set1 | apply RdAt.set1i | apply RdAt.set2 | apply RdAt.set2i | apply RdAt.other | apply RdAt.drewN | apply RdAt.drew | exact (Int.natCast_succ _).symm | omega)))⟩
  have n124 := byte_ne (n := 124) e124
  have HA1 := hidden (show atomE g (p.drop k) = (if c = 94 then .ok (plainN 6) 1 else if c = 36 then .ok (plainN 7) 1 else if c = 46 then .ok (setN (othersB none_)) 1 else if c = 92 then (if (p.drop k).length < 2 then .er 1 2 else .ok (setN (spn ((p.drop k).getD 1 0).toNat ((p.drop k).getD 1 0).toNat)) 2) else .ok (setN (spn c.toNat c.toNat)) 1) by
    rw [HA0.out, if_neg (by unfold special; simp [e41, e42, e43, e63, e123, e124])])
  clear HA0 e40 e91 e41 e42 e43 e63 e123 e124
  by_cases e94 : c = 94
  · subst e94
    have HA := hidden (show atomE g (p.drop k) = .ok (plainN 6) 1 by rw [HA1.out, if_pos rfl])
    clear HA1
    go_enter Try.func37, Try.ntmps37
    go_wp2_with fail
    go_quiet (fail)
    go_wp2_with fail
    refine bodyPost_ret (results_node2 rfl _ _ w.heap.size (.int .i64 6) (.int .u64 0) (.int .u64 0) (.int .u64 0) (.int .u64 0) (.slice none 0 0) (.int .i64 0) (.int .i64 0) rfl (by (with_reducible (repeat (first | exact HZ0.out | (apply Blk.newAt; simp; done) | apply Blk.alloc | apply Blk.put | apply Blk.putOther | apply Blk.other | apply Blk.drewN | apply Blk.drew | omega))))) rfl ?_
    rw [HA.out]
    exact ⟨by (with_reducible (repeat (first | exact Gr.refl _ _ | apply Gr.alloc | apply Gr.put | apply Gr.own | apply Gr.new | apply Gr.drewN | apply Gr.drew | omega))), _, rfl, plainN_lit _ _ 6 6 rfl, by (with_reducible (repeat (first | exact HR0.out | apply RdAt.alloc | apply RdAt.put | apply RdAt.set1 | apply RdAt.set1i | apply RdAt.set2 | apply RdAt.set2i | apply RdAt.other | apply RdAt.drewN | apply RdAt.drew | exact (Int.natCast_succ _).symm | omega)))⟩
  have n94 := byte_ne (n := 94) e94
  by_cases e36 : c = 36
  · subst e36
    have HA := hidden (show atomE g (p.drop k) = .ok (plainN 7) 1 by rw [HA1.out, if_neg (by decide), if_pos rfl])
    clear HA1 e94
    go_enter Try.func37, Try.ntmps37
    go_wp2_with fail
    go_quiet (fail)
    go_wp2_with fail
    refine bodyPost_ret (results_node2 rfl _ _ w.heap.size (.int .i64 7) (.int .u64 0) (.int .u64 0) (.int .u64 0) (.int .u64 0) (.slice none 0 0) (.int .i64 0) (.int .i64 0) rfl (by (with_reducible (repeat (first | exact HZ0.out | (apply Blk.newAt; simp; done) | apply Blk.alloc | apply Blk.put | apply Blk.putOther | apply Blk.other | apply Blk.drewN | apply Blk.drew | omega))))) rfl ?_
    rw [HA.out]
    exact ⟨by (with_reducible (repeat (first | exact Gr.refl _ _ | apply Gr.alloc | apply Gr.put | apply Gr.own | apply Gr.new | apply Gr.drewN | apply Gr.drew | omega))), _, rfl, plainN_lit _ _ 7 7 rfl, by (with_reducible (repeat (first | exact HR0.out | apply RdAt.alloc | apply RdAt.put | apply RdAt.set1 | apply RdAt.set1i | apply RdAt.set2 | apply RdAt.set2i | apply RdAt.other | apply RdAt.drewN | apply RdAt.drew | exact (Int.natCast_succ _).symm | omega)))⟩
  have n36 := byte_ne (n := 36) e36
  by_cases e46 : c = 46
  · subst e46
    have HA := hidden (show atomE g (p.drop k) = .ok (setN (othersB none_)) 1 by rw [HA1.out, if_neg (by decide), if_neg (by decide), if_pos rfl])
    clear HA1 e94 e36
    go_enter Try.func37, Try.ntmps37
    go_wp2_with fail
    go_quiet (fail)
    go_wp2_with fail
    rw [← set_none]
    refine (othersOf_any none_ _).mono ?_
    rintro e w2 ⟨rfl, hb2⟩
    have HG2 := hidden (Gr.below (R := R) (w := w) (by (with_reducible (repeat (first | exact Gr.refl _ _ | apply Gr.alloc | apply Gr.put | apply Gr.own | apply Gr.new | apply Gr.drewN | apply Gr.drew | omega)))) hb2)
    have HR2 := hidden (RdAt.later (R := R) (p := p) (k := k + 1) (o := (o : Int)) (by (with_reducible (repeat (first | exact HR0.out | apply RdAt.alloc | apply RdAt.put | apply RdAt.set1 | apply RdAt.set1i | apply RdAt.set2 | apply RdAt.set2i | apply RdAt.other | apply RdAt.drewN | apply RdAt.drew | exact (Int.natCast_succ _).symm | omega)))) hb2)
    have HZ2 := hidden (ZeroAt.later (b := w.heap.size) (by (with_reducible (repeat (first | exact HZ0.out | (apply Blk.newAt; simp; done) | apply Blk.alloc | apply Blk.put | apply Blk.putOther | apply Blk.other | apply Blk.drewN | apply Blk.drew | omega)))) hb2)
    have hzl2 := HZ2.out.lt
    clear hb2
    unfold setV
    go_wp2_with fail
    rw [show Value.agg #[.int .u64 (word (othersB none_) 0), .int .u64 (word (othersB none_) 1), .int .u64 (word (othersB none_) 2), .int .u64 (word (othersB none_) 3)] = setV (othersB none_) from rfl]
    refine (setNode_any (othersB none_) _).mono ?_
    rintro e w3 ⟨rfl, hb3⟩
    have HG3 := hidden (Gr.below (R := R) (w := w) (by (with_reducible (repeat (first | exact HG2.out | apply Gr.alloc | apply Gr.put | apply Gr.own | apply Gr.new | apply Gr.drewN | apply Gr.drew | omega)))) hb3)
    have HR3 := hidden (RdAt.later (R := R) (p := p) (k := k + 1) (o := (o : Int)) (by (with_reducible (repeat (first | exact HR2.out | apply RdAt.alloc | apply RdAt.put | apply RdAt.set1 | apply RdAt.set1i | apply RdAt.set2 | apply RdAt.set2i | apply RdAt.other | apply RdAt.drewN | apply RdAt.drew | exact (Int.natCast_succ _).symm | omega)))) hb3)
    have HZ3 := hidden (ZeroAt.later (b := w.heap.size) (by (with_reducible (repeat (first | exact HZ2.out | (apply Blk.newAt; simp; done) | apply Blk.alloc | apply Blk.put | apply Blk.putOther | apply Blk.other | apply Blk.drewN | apply Blk.drew | omega)))) hb3)
    obtain ⟨z0, z1, z2, z3, z4, z5, z6, z7⟩ := HZ3.out.cells
    obtain ⟨f0, f1, f2, f3, f4, f5, f6, f7⟩ := HZ3.out.thawed
    have hzl3 := HZ3.out.lt
    clear hb3
    unfold nodeV
    go_wp2_with fail
    refine bodyPost_ret (results_node2 rfl _ _ w.heap.size (.int .i64 2) (.int .u64 (word (othersB none_) 0)) (.int .u64 (word (othersB none_) 1)) (.int .u64 (word (othersB none_) 2)) (.int .u64 (word (othersB none_) 3)) (.slice none 0 0) (.int .i64 0) (.int .i64 0) rfl (by (with_reducible (repeat (first | exact HZ3.out | (apply Blk.newAt; simp; done) | apply Blk.alloc | apply Blk.put | apply Blk.putOther | apply Blk.other | apply Blk.drewN | apply Blk.drew | omega))))) rfl ?_
    rw [HA.out]
    exact ⟨by (with_reducible (repeat (first | exact HG3.out | apply Gr.alloc | apply Gr.put | apply Gr.own | apply Gr.new | apply Gr.drewN | apply Gr.drew | omega))), _, rfl, setN_at _ _ _, by (with_reducible (repeat (first | exact HR3.out | apply RdAt.alloc | apply RdAt.put | apply RdAt.set1 | apply RdAt.set1i | apply RdAt.set2 | apply RdAt.set2i | apply RdAt.other | apply RdAt.drewN | apply RdAt.drew | exact (Int.natCast_succ _).symm | omega)))⟩
  have n46 := byte_ne (n := 46) e46
  by_cases e92 : c = 92
  · subst e92
    have hA : atomE g (p.drop k) = (if (p.drop k).length < 2 then .er 1 2 else .ok (setN (spn ((p.drop k).getD 1 0).toNat ((p.drop k).getD 1 0).toNat)) 2) := by rw [HA1.out, if_neg (by decide), if_neg (by decide), if_neg (by decide), if_pos rfl]
    rw [List.length_drop] at hA
    clear HA1 e94 e36 e46
    by_cases hl : k + 1 < p.length
    · obtain ⟨d, hd⟩ : ∃ d, d = p.getD (k + 1) 0 := ⟨_, rfl⟩
      have hb2 : ∀ h, (⟨p.toArray⟩ : ByteArray)[k + 1]'h = d := fun h => by rw [byte_at, hd]
      have HA := hidden (show atomE g (p.drop k) = .ok (setN (spn d.toNat d.toNat)) 2 by rw [hA, if_neg (by omega), drop_getD, ← hd])
      have hll : ¬ (k : Int) + 1 = p.length := by omega
      have hlb : ((k : Int) + 1 == (p.length : Int)) = false := by rw [beq_eq_false_iff_ne]; exact hll
      have hl3 : (k : Int) + 1 < p.length := by omega
      clear hA hd
      go_enter Try.func37, Try.ntmps37
      go_wp2_with fail
      go_quiet (fail)
      go_wp2_with fail
      go_quiet (fail)
      go_wp2_with fail
      go_quiet (fail)
      go_wp2_with fail
      refine (span_any d d _).mono ?_
      rintro e w2 ⟨rfl, hb2⟩
      have HG2 := hidden (Gr.below (R := R) (w := w) (by (with_reducible (repeat (first | exact Gr.refl _ _ | apply Gr.alloc | apply Gr.put | apply Gr.own | apply Gr.new | apply Gr.drewN | apply Gr.drew | omega)))) hb2)
      have HR2 := hidden (RdAt.later (R := R) (p := p) (k := k + 2) (o := (o : Int)) (by (with_reducible (repeat (first | exact HR0.out | apply RdAt.alloc | apply RdAt.put | apply RdAt.set1 | apply RdAt.set1i | apply RdAt.set2 | apply RdAt.set2i | apply RdAt.other | apply RdAt.drewN | apply RdAt.drew | exact (Int.natCast_succ _).symm | omega)))) hb2)
      have HZ2 := hidden (ZeroAt.later (b := w.heap.size) (by (with_reducible (repeat (first | exact HZ0.out | (apply Blk.newAt; simp; done) | apply Blk.alloc | apply Blk.put | apply Blk.putOther | apply Blk.other | apply Blk.drewN | apply Blk.drew | omega)))) hb2)
      have hzl2 := HZ2.out.lt
      clear hb2
      unfold setV
      go_wp2_with fail
      rw [show Value.agg #[.int .u64 (word (spn d.toNat d.toNat) 0), .int .u64 (word (spn d.toNat d.toNat) 1), .int .u64 (word (spn d.toNat d.toNat) 2), .int .u64 (word (spn d.toNat d.toNat) 3)] = setV (spn d.toNat d.toNat) from rfl]
      refine (setNode_any (spn d.toNat d.toNat) _).mono ?_
      rintro e w3 ⟨rfl, hb3⟩
      have HG3 := hidden (Gr.below (R := R) (w := w) (by (with_reducible (repeat (first | exact HG2.out | apply Gr.alloc | apply Gr.put | apply Gr.own | apply Gr.new | apply Gr.drewN | apply Gr.drew | omega)))) hb3)
      have HR3 := hidden (RdAt.later (R := R) (p := p) (k := k + 2) (o := (o : Int)) (by (with_reducible (repeat (first | exact HR2.out | apply RdAt.alloc | apply RdAt.put | apply RdAt.set1 | apply RdAt.set1i | apply RdAt.set2 | apply RdAt.set2i | apply RdAt.other | apply RdAt.drewN | apply RdAt.drew | exact (Int.natCast_succ _).symm | omega)))) hb3)
      have HZ3 := hidden (ZeroAt.later (b := w.heap.size) (by (with_reducible (repeat (first | exact HZ2.out | (apply Blk.newAt; simp; done) | apply Blk.alloc | apply Blk.put | apply Blk.putOther | apply Blk.other | apply Blk.drewN | apply Blk.drew | omega)))) hb3)
      obtain ⟨z0, z1, z2, z3, z4, z5, z6, z7⟩ := HZ3.out.cells
      obtain ⟨f0, f1, f2, f3, f4, f5, f6, f7⟩ := HZ3.out.thawed
      have hzl3 := HZ3.out.lt
      clear hb3
      unfold nodeV
      go_wp2_with fail
      refine bodyPost_ret (results_node2 rfl _ _ w.heap.size (.int .i64 2) (.int .u64 (word (spn d.toNat d.toNat) 0)) (.int .u64 (word (spn d.toNat d.toNat) 1)) (.int .u64 (word (spn d.toNat d.toNat) 2)) (.int .u64 (word (spn d.toNat d.toNat) 3)) (.slice none 0 0) (.int .i64 0) (.int .i64 0) rfl (by (with_reducible (repeat (first | exact HZ3.out | (apply Blk.newAt; simp; done) | apply Blk.alloc | apply Blk.put | apply Blk.putOther | apply Blk.other | apply Blk.drewN | apply Blk.drew | omega))))) rfl ?_
      rw [HA.out]
      exact ⟨by (with_reducible (repeat (first | exact HG3.out | apply Gr.alloc | apply Gr.put | apply Gr.own | apply Gr.new | apply Gr.drewN | apply Gr.drew | omega))), _, rfl, setN_at _ _ _, by (with_reducible (repeat (first | exact HR3.out | apply RdAt.alloc | apply RdAt.put | apply RdAt.set1 | apply RdAt.set1i | apply RdAt.set2 | apply RdAt.set2i | apply RdAt.other | apply RdAt.drewN | apply RdAt.drew | exact (Int.natCast_succ _).symm | omega)))⟩
    · have HA := hidden (show atomE g (p.drop k) = .er 1 2 by rw [hA, if_pos (by omega)])
      have hll : (k : Int) + 1 = p.length := by omega
      have hlb : ((k : Int) + 1 == (p.length : Int)) = true := by rw [beq_iff_eq]; exact hll
      clear hA hll
      go_enter Try.func37, Try.ntmps37
      go_wp2_with fail
      go_quiet (fail)
      go_wp2_with fail
      go_quiet (fail)
      go_wp2_with fail
      refine bodyPost_ret (results_node2 rfl _ _ w.heap.size (.int .i64 0) (.int .u64 0) (.int .u64 0) (.int .u64 0) (.int .u64 0) (.slice none 0 0) (.int .i64 0) (.int .i64 0) rfl (by (with_reducible (repeat (first | exact HZ0.out | (apply Blk.newAt; simp; done) | apply Blk.alloc | apply Blk.put | apply Blk.putOther | apply Blk.other | apply Blk.drewN | apply Blk.drew | omega))))) rfl ?_
      rw [HA.out]
      exact ⟨by (with_reducible (repeat (first | exact Gr.refl _ _ | apply Gr.alloc | apply Gr.put | apply Gr.own | apply Gr.new | apply Gr.drewN | apply Gr.drew | omega))), rfl, by decide, _, by (with_reducible (repeat (first | exact HR0.out | apply RdAt.alloc | apply RdAt.put | apply RdAt.set1 | apply RdAt.set1i | apply RdAt.set2 | apply RdAt.set2i | apply RdAt.other | apply RdAt.drewN | apply RdAt.drew | exact (Int.natCast_succ _).symm | omega)))⟩
  have n92 := byte_ne (n := 92) e92
  have HA := hidden (show atomE g (p.drop k) = .ok (setN (spn c.toNat c.toNat)) 1 by rw [HA1.out, if_neg e94, if_neg e36, if_neg e46, if_neg e92])
  clear HA1 e94 e36 e46 e92
  go_enter Try.func37, Try.ntmps37
  go_wp2_with fail
  go_quiet (fail)
  go_wp2_with fail
  refine (span_any c c _).mono ?_
  rintro e w2 ⟨rfl, hb2⟩
  have HG2 := hidden (Gr.below (R := R) (w := w) (by (with_reducible (repeat (first | exact Gr.refl _ _ | apply Gr.alloc | apply Gr.put | apply Gr.own | apply Gr.new | apply Gr.drewN | apply Gr.drew | omega)))) hb2)
  have HR2 := hidden (RdAt.later (R := R) (p := p) (k := k + 1) (o := (o : Int)) (by (with_reducible (repeat (first | exact HR0.out | apply RdAt.alloc | apply RdAt.put | apply RdAt.set1 | apply RdAt.set1i | apply RdAt.set2 | apply RdAt.set2i | apply RdAt.other | apply RdAt.drewN | apply RdAt.drew | exact (Int.natCast_succ _).symm | omega)))) hb2)
  have HZ2 := hidden (ZeroAt.later (b := w.heap.size) (by (with_reducible (repeat (first | exact HZ0.out | (apply Blk.newAt; simp; done) | apply Blk.alloc | apply Blk.put | apply Blk.putOther | apply Blk.other | apply Blk.drewN | apply Blk.drew | omega)))) hb2)
  have hzl2 := HZ2.out.lt
  clear hb2
  unfold setV
  go_wp2_with fail
  rw [show Value.agg #[.int .u64 (word (spn c.toNat c.toNat) 0), .int .u64 (word (spn c.toNat c.toNat) 1), .int .u64 (word (spn c.toNat c.toNat) 2), .int .u64 (word (spn c.toNat c.toNat) 3)] = setV (spn c.toNat c.toNat) from rfl]
  refine (setNode_any (spn c.toNat c.toNat) _).mono ?_
  rintro e w3 ⟨rfl, hb3⟩
  have HG3 := hidden (Gr.below (R := R) (w := w) (by (with_reducible (repeat (first | exact HG2.out | apply Gr.alloc | apply Gr.put | apply Gr.own | apply Gr.new | apply Gr.drewN | apply Gr.drew | omega)))) hb3)
  have HR3 := hidden (RdAt.later (R := R) (p := p) (k := k + 1) (o := (o : Int)) (by (with_reducible (repeat (first | exact HR2.out | apply RdAt.alloc | apply RdAt.put | apply RdAt.set1 | apply RdAt.set1i | apply RdAt.set2 | apply RdAt.set2i | apply RdAt.other | apply RdAt.drewN | apply RdAt.drew | exact (Int.natCast_succ _).symm | omega)))) hb3)
  have HZ3 := hidden (ZeroAt.later (b := w.heap.size) (by (with_reducible (repeat (first | exact HZ2.out | (apply Blk.newAt; simp; done) | apply Blk.alloc | apply Blk.put | apply Blk.putOther | apply Blk.other | apply Blk.drewN | apply Blk.drew | omega)))) hb3)
  obtain ⟨z0, z1, z2, z3, z4, z5, z6, z7⟩ := HZ3.out.cells
  obtain ⟨f0, f1, f2, f3, f4, f5, f6, f7⟩ := HZ3.out.thawed
  have hzl3 := HZ3.out.lt
  clear hb3
  unfold nodeV
  go_wp2_with fail
  refine bodyPost_ret (results_node2 rfl _ _ w.heap.size (.int .i64 2) (.int .u64 (word (spn c.toNat c.toNat) 0)) (.int .u64 (word (spn c.toNat c.toNat) 1)) (.int .u64 (word (spn c.toNat c.toNat) 2)) (.int .u64 (word (spn c.toNat c.toNat) 3)) (.slice none 0 0) (.int .i64 0) (.int .i64 0) rfl (by (with_reducible (repeat (first | exact HZ3.out | (apply Blk.newAt; simp; done) | apply Blk.alloc | apply Blk.put | apply Blk.putOther | apply Blk.other | apply Blk.drewN | apply Blk.drew | omega))))) rfl ?_
  rw [HA.out]
  exact ⟨by (with_reducible (repeat (first | exact HG3.out | apply Gr.alloc | apply Gr.put | apply Gr.own | apply Gr.new | apply Gr.drewN | apply Gr.drew | omega))), _, rfl, setN_at _ _ _, by (with_reducible (repeat (first | exact HR3.out | apply RdAt.alloc | apply RdAt.put | apply RdAt.set1 | apply RdAt.set1i | apply RdAt.set2 | apply RdAt.set2i | apply RdAt.other | apply RdAt.drewN | apply RdAt.drew | exact (Int.natCast_succ _).symm | omega)))⟩

end Go.Proofs.Ytjeloflfhofdlaa
