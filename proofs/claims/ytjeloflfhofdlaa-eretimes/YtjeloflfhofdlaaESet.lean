/-
  What the program's set answers: a set read from its bracket on; conditions: the text's length, and that the reader's block holds it.
-/
import Derived.Test.YtjeloflfhofdlaaEMeets
namespace Go.Proofs.Ytjeloflfhofdlaa
open Go.RowKit Go.Proofs.Ytjeloflfhofdlaa.Gl

set_option maxHeartbeats 4000000 in
theorem set_any (p : Tx) (k R : Nat) (o : Int) (w : World) (hp : p.length ≤ 1000) (hk : k < p.length) (hr : RdAt w R p k o) :
    Calls Try.prog 42 #[.pointer (some ⟨R, 0, none⟩)] w fun e w' => Gr R w w' ∧ Ans w w' e R p k o (setAtom (p.drop k)) := by
  have hR := hr.lt
  have HR0 := hidden (hr.alloc (.cells #[.int .i64 0, .int .u64 0, .int .u64 0, .int .u64 0, .int .u64 0, .slice none 0 0, .int .i64 0, .int .i64 0] 27))
  obtain ⟨r0, r1, r2⟩ := hr.cells
  have HZ0 := hidden (Blk.new w (.int .i64 0) (.int .u64 0) (.int .u64 0) (.int .u64 0) (.int .u64 0) (.slice none 0 0) (.int .i64 0) (.int .i64 0))
  have HG0 := hidden ((Gr.refl R w).alloc (.cells #[.int .i64 0, .int .u64 0, .int .u64 0, .int .u64 0, .int .u64 0, .slice none 0 0, .int .i64 0, .int .i64 0] 27))
  clear hr
  obtain ⟨c, hc⟩ : ∃ c, c = p.getD (k + 1) 0 := ⟨_, rfl⟩
  have hb : ∀ h, (⟨p.toArray⟩ : ByteArray)[k + 1]'h = c := fun h => by rw [byte_at, hc]
  have hcg : (p.drop (k + 1)).getD 0 0 = c := by rw [getD_byte, hc]
  have hdd : (p.drop k).drop 1 = p.drop (k + 1) := by rw [List.drop_drop]
  obtain ⟨q, hq⟩ : ∃ q, q = k + 1 + negN (p.drop (k + 1)) := ⟨_, rfl⟩
  have hqp : q ≤ p.length := by have := negN_le (p.drop (k + 1)); rw [List.length_drop] at this; omega
  have HE := hidden (setE_of p k q hq hk)
  have HD := hidden hdd
  cases hs : setGo eOne (p.length + 1) true (p.drop q) none_ with
  | none =>
    by_cases h94 : c = 94
    · subst h94
      have hlt : k + 1 < p.length := by
        by_cases h : k + 1 < p.length
        · exact h
        · rw [getD_out (by omega)] at hc; cases hc
      have hli : (k : Int) + 1 < p.length := by omega
      have hn1 : negE (p.drop (k + 1)) = true := by unfold negE; rw [hcg]; rfl
      have hn2 : negN (p.drop (k + 1)) = 1 := by unfold negN; rw [if_pos hn1]
      have e2 : (k : Int) + 1 + 1 = (q : Int) := by omega
      have HA := hidden (show setAtom (p.drop k) = .er 0 2 by unfold setAtom; rw [HD.out, HE.out, hs]; rfl)
      have HS := hidden hs
      have E2 := hidden e2
      clear hs HE HD hc hcg hq hn1 hn2 e2
      go_enter Try.func42, Try.ntmps42
      go_wp2_with fail
      rw [E2.out]
      refine (sread_any p q _ (by omega) hqp).mono ?_
      rintro e w1 ⟨rfl, hb1⟩
      have HG1 := hidden (HG0.out.below hb1)
      have HR1 := hidden (HR0.out.later hb1)
      have HZ1 := hidden (HZ0.out.later hb1)
      obtain ⟨z0, z1, z2, z3, z4, z5, z6, z7⟩ := (HZ0.out.later hb1).cells
      obtain ⟨f0, f1, f2, f3, f4, f5, f6, f7⟩ := (HZ0.out.later hb1).thawed
      have hzl := (HZ0.out.later hb1).lt
      rw [HS.out]
      unfold setAns
      rw [set_none]
      clear hb1
      go_wp2_with fail
      refine bodyPost_ret (results_node2 rfl _ _ w.heap.size (.int .i64 0) (.int .u64 0) (.int .u64 0) (.int .u64 0) (.int .u64 0) (.slice none 0 0) (.int .i64 0) (.int .i64 0) rfl (by (with_reducible (repeat (first | exact HZ1.out | (apply Blk.newAt; simp; done) | apply Blk.alloc | apply Blk.put | apply Blk.putOther | apply Blk.other | apply Blk.drewN | apply Blk.drew | omega))))) rfl ?_
      rw [HA.out]
      exact ⟨by (with_reducible (repeat (first | exact HG1.out | apply Gr.alloc | apply Gr.put | apply Gr.own | apply Gr.new | apply Gr.drewN | apply Gr.drew | omega))), rfl, by decide, o, by rw [Nat.add_zero]; (with_reducible (repeat (first | exact HR1.out | apply RdAt.alloc | apply RdAt.put | apply RdAt.set1 | apply RdAt.set1i | apply RdAt.set2 | apply RdAt.set2i | apply RdAt.other | apply RdAt.drewN | apply RdAt.drew | exact (Int.natCast_succ _).symm | omega)))⟩
    · by_cases hlt : k + 1 < p.length
      · have e94 := byte_ne (n := 94) h94
        have hn1 : negE (p.drop (k + 1)) = false := by unfold negE; rw [hcg]; simpa using h94
        have hn2 : negN (p.drop (k + 1)) = 0 := by unfold negN; rw [if_neg (by rw [hn1]; decide)]
        have e2 : (k : Int) + 1 = (q : Int) := by omega
        have hli : (k : Int) + 1 < p.length := by omega
        have HA := hidden (show setAtom (p.drop k) = .er 0 2 by unfold setAtom; rw [HD.out, HE.out, hs]; rfl)
        have HS := hidden hs
        have E2 := hidden e2
        clear hs HE HD hc hcg hq hn1 hn2 e2
        clear h94
        go_enter Try.func42, Try.ntmps42
        go_wp2_with fail
        rw [E2.out]
        refine (sread_any p q _ (by omega) hqp).mono ?_
        rintro e w1 ⟨rfl, hb1⟩
        have HG1 := hidden (HG0.out.below hb1)
        have HR1 := hidden (HR0.out.later hb1)
        have HZ1 := hidden (HZ0.out.later hb1)
        obtain ⟨z0, z1, z2, z3, z4, z5, z6, z7⟩ := (HZ0.out.later hb1).cells
        obtain ⟨f0, f1, f2, f3, f4, f5, f6, f7⟩ := (HZ0.out.later hb1).thawed
        have hzl := (HZ0.out.later hb1).lt
        rw [HS.out]
        unfold setAns
        rw [set_none]
        clear hb1
        go_wp2_with fail
        refine bodyPost_ret (results_node2 rfl _ _ w.heap.size (.int .i64 0) (.int .u64 0) (.int .u64 0) (.int .u64 0) (.int .u64 0) (.slice none 0 0) (.int .i64 0) (.int .i64 0) rfl (by (with_reducible (repeat (first | exact HZ1.out | (apply Blk.newAt; simp; done) | apply Blk.alloc | apply Blk.put | apply Blk.putOther | apply Blk.other | apply Blk.drewN | apply Blk.drew | omega))))) rfl ?_
        rw [HA.out]
        exact ⟨by (with_reducible (repeat (first | exact HG1.out | apply Gr.alloc | apply Gr.put | apply Gr.own | apply Gr.new | apply Gr.drewN | apply Gr.drew | omega))), rfl, by decide, o, by rw [Nat.add_zero]; (with_reducible (repeat (first | exact HR1.out | apply RdAt.alloc | apply RdAt.put | apply RdAt.set1 | apply RdAt.set1i | apply RdAt.set2 | apply RdAt.set2i | apply RdAt.other | apply RdAt.drewN | apply RdAt.drew | exact (Int.natCast_succ _).symm | omega)))⟩
      · have e94 := byte_ne (n := 94) h94
        have hn1 : negE (p.drop (k + 1)) = false := by unfold negE; rw [hcg]; simpa using h94
        have hn2 : negN (p.drop (k + 1)) = 0 := by unfold negN; rw [if_neg (by rw [hn1]; decide)]
        have e2 : (k : Int) + 1 = (q : Int) := by omega
        have hli : ¬ (k : Int) + 1 < p.length := by omega
        have HA := hidden (show setAtom (p.drop k) = .er 0 2 by unfold setAtom; rw [HD.out, HE.out, hs]; rfl)
        have HS := hidden hs
        have E2 := hidden e2
        clear hs HE HD hc hcg hq hn1 hn2 e2
        clear h94
        go_enter Try.func42, Try.ntmps42
        go_wp2_with fail
        rw [E2.out]
        refine (sread_any p q _ (by omega) hqp).mono ?_
        rintro e w1 ⟨rfl, hb1⟩
        have HG1 := hidden (HG0.out.below hb1)
        have HR1 := hidden (HR0.out.later hb1)
        have HZ1 := hidden (HZ0.out.later hb1)
        obtain ⟨z0, z1, z2, z3, z4, z5, z6, z7⟩ := (HZ0.out.later hb1).cells
        obtain ⟨f0, f1, f2, f3, f4, f5, f6, f7⟩ := (HZ0.out.later hb1).thawed
        have hzl := (HZ0.out.later hb1).lt
        rw [HS.out]
        unfold setAns
        rw [set_none]
        clear hb1
        go_wp2_with fail
        refine bodyPost_ret (results_node2 rfl _ _ w.heap.size (.int .i64 0) (.int .u64 0) (.int .u64 0) (.int .u64 0) (.int .u64 0) (.slice none 0 0) (.int .i64 0) (.int .i64 0) rfl (by (with_reducible (repeat (first | exact HZ1.out | (apply Blk.newAt; simp; done) | apply Blk.alloc | apply Blk.put | apply Blk.putOther | apply Blk.other | apply Blk.drewN | apply Blk.drew | omega))))) rfl ?_
        rw [HA.out]
        exact ⟨by (with_reducible (repeat (first | exact HG1.out | apply Gr.alloc | apply Gr.put | apply Gr.own | apply Gr.new | apply Gr.drewN | apply Gr.drew | omega))), rfl, by decide, o, by rw [Nat.add_zero]; (with_reducible (repeat (first | exact HR1.out | apply RdAt.alloc | apply RdAt.put | apply RdAt.set1 | apply RdAt.set1i | apply RdAt.set2 | apply RdAt.set2i | apply RdAt.other | apply RdAt.drewN | apply RdAt.drew | exact (Int.natCast_succ _).symm | omega)))⟩
  | some r =>
    have hrl := setGo_len _ _ _ _ _ _ hs
    rw [List.length_drop] at hrl
    by_cases h94 : c = 94
    · subst h94
      have hlt : k + 1 < p.length := by
        by_cases h : k + 1 < p.length
        · exact h
        · rw [getD_out (by omega)] at hc; cases hc
      have hli : (k : Int) + 1 < p.length := by omega
      have hn1 : negE (p.drop (k + 1)) = true := by unfold negE; rw [hcg]; rfl
      have hn2 : negN (p.drop (k + 1)) = 1 := by unfold negN; rw [if_pos hn1]
      have e2 : (k : Int) + 1 + 1 = (q : Int) := by omega
      obtain ⟨q2, hq2⟩ : ∃ q2, q2 = q + r.2 := ⟨_, rfl⟩
      have HA := hidden (show setAtom (p.drop k) = .ok (setN (othersB r.1)) (q2 - k) by
        unfold setAtom
        rw [HD.out, HE.out, hs, hn1, hn2]
        show Rs.ok _ (1 + (1 + r.2)) = _
        congr 1
        omega)
      have hqk : k + (q2 - k) = q2 := by omega
      have HQK := hidden hqk
      have HS := hidden hs
      have E2 := hidden e2
      have HSA := hidden (show setAns q (some r) = .tuple #[setV r.1, .int .i64 q2, .bool true] by unfold setAns; rw [hq2])
      obtain ⟨f, n⟩ := r
      simp only [] at HA HSA
      clear hs HE HD hc hcg hq hn1 hn2 e2 hq2 hqk
      go_enter Try.func42, Try.ntmps42
      go_wp2_with fail
      rw [E2.out]
      refine (sread_any p q _ (by omega) hqp).mono ?_
      rintro e w1 ⟨rfl, hb1⟩
      have HG1 := hidden (HG0.out.below hb1)
      have HR1 := hidden (HR0.out.later hb1)
      have HZ1 := hidden (HZ0.out.later hb1)
      have hzl := HZ1.out.lt
      rw [HS.out, HSA.out]
      clear hb1
      unfold setV
      go_wp2_with fail
      refine (othersOf_any f _).mono ?_
      rintro e w2 ⟨rfl, hb2⟩
      have HG2 := hidden (Gr.below (HG1.out.alloc _) hb2)
      have HR2 := hidden ((HR1.out.alloc _).later hb2)
      have HZ2 := hidden ((HZ1.out.alloc _).later hb2)
      have HX2 := hidden (Arr.later (Arr.new w1 (word f 0) (word f 1) (word f 2) (word f 3)) hb2)
      obtain ⟨x0, x1, x2, x3⟩ := HX2.out.cells
      obtain ⟨y0, y1, y2, y3⟩ := HX2.out.thawed
      obtain ⟨s0, s1, s2⟩ := HR2.out.cells
      obtain ⟨t0, t1, t2⟩ := HR2.out.thawed
      have hxl := HX2.out.lt
      clear hb2
      unfold setV
      go_wp2_with fail
      rw [show Value.agg #[.int .u64 (word (othersB f) 0), .int .u64 (word (othersB f) 1), .int .u64 (word (othersB f) 2), .int .u64 (word (othersB f) 3)] = setV (othersB f) from rfl]
      refine (setNode_any (othersB f) _).mono ?_
      rintro e w3 ⟨rfl, hb3⟩
      have hRn : R ≠ w1.heap.size := by omega
      have hZn : w.heap.size ≠ w1.heap.size := by omega
      have hZR : w.heap.size ≠ R := by omega
      have hw1 : w.heap.size ≤ w1.heap.size := by omega
      have HG3 := hidden (Gr.below (R := R) (w := w) (by (with_reducible (repeat (first | exact HG2.out | apply Gr.alloc | apply Gr.put | apply Gr.own | apply Gr.new | apply Gr.drewN | apply Gr.drew | omega)))) hb3)
      have HR3 := hidden (RdAt.later (R := R) (p := p) (k := q2) (o := o) (by (with_reducible (repeat (first | exact HR2.out | apply RdAt.alloc | apply RdAt.put | apply RdAt.set1 | apply RdAt.set1i | apply RdAt.set2 | apply RdAt.set2i | apply RdAt.other | apply RdAt.drewN | apply RdAt.drew | exact (Int.natCast_succ _).symm | omega)))) hb3)
      have HZ3 := hidden (ZeroAt.later (b := w.heap.size) (by (with_reducible (repeat (first | exact HZ2.out | (apply Blk.newAt; simp; done) | apply Blk.alloc | apply Blk.put | apply Blk.putOther | apply Blk.other | apply Blk.drewN | apply Blk.drew | omega)))) hb3)
      obtain ⟨z0, z1, z2, z3, z4, z5, z6, z7⟩ := HZ3.out.cells
      obtain ⟨f0, f1, f2, f3, f4, f5, f6, f7⟩ := HZ3.out.thawed
      have hzl3 := HZ3.out.lt
      clear hb3
      unfold nodeV
      go_wp2_with fail
      refine bodyPost_ret (results_node2 rfl _ _ w.heap.size (.int .i64 2) (.int .u64 (word (othersB f) 0)) (.int .u64 (word (othersB f) 1)) (.int .u64 (word (othersB f) 2)) (.int .u64 (word (othersB f) 3)) (.slice none 0 0) (.int .i64 0) (.int .i64 0) rfl (by (with_reducible (repeat (first | exact HZ3.out | (apply Blk.newAt; simp; done) | apply Blk.alloc | apply Blk.put | apply Blk.putOther | apply Blk.other | apply Blk.drewN | apply Blk.drew | omega))))) rfl ?_
      rw [HA.out]
      exact ⟨by (with_reducible (repeat (first | exact HG3.out | apply Gr.alloc | apply Gr.put | apply Gr.own | apply Gr.new | apply Gr.drewN | apply Gr.drew | omega))), _, rfl, setN_at _ _ _, by rw [HQK.out]; (with_reducible (repeat (first | exact HR3.out | apply RdAt.alloc | apply RdAt.put | apply RdAt.set1 | apply RdAt.set1i | apply RdAt.set2 | apply RdAt.set2i | apply RdAt.other | apply RdAt.drewN | apply RdAt.drew | exact (Int.natCast_succ _).symm | omega)))⟩
    · by_cases hlt : k + 1 < p.length
      · have e94 := byte_ne (n := 94) h94
        have hn1 : negE (p.drop (k + 1)) = false := by unfold negE; rw [hcg]; simpa using h94
        have hn2 : negN (p.drop (k + 1)) = 0 := by unfold negN; rw [if_neg (by rw [hn1]; decide)]
        have e2 : (k : Int) + 1 = (q : Int) := by omega
        have hli : (k : Int) + 1 < p.length := by omega
        obtain ⟨q2, hq2⟩ : ∃ q2, q2 = q + r.2 := ⟨_, rfl⟩
        have HA := hidden (show setAtom (p.drop k) = .ok (setN (r.1)) (q2 - k) by
          unfold setAtom
          rw [HD.out, HE.out, hs, hn1, hn2]
          show Rs.ok _ (1 + (0 + r.2)) = _
          congr 1
          omega)
        have hqk : k + (q2 - k) = q2 := by omega
        have HQK := hidden hqk
        have HS := hidden hs
        have E2 := hidden e2
        have HSA := hidden (show setAns q (some r) = .tuple #[setV r.1, .int .i64 q2, .bool true] by unfold setAns; rw [hq2])
        obtain ⟨f, n⟩ := r
        simp only [] at HA HSA
        clear hs HE HD hc hcg hq hn1 hn2 e2 hq2 hqk
        clear h94
        go_enter Try.func42, Try.ntmps42
        go_wp2_with fail
        rw [E2.out]
        refine (sread_any p q _ (by omega) hqp).mono ?_
        rintro e w1 ⟨rfl, hb1⟩
        have HG1 := hidden (HG0.out.below hb1)
        have HR1 := hidden (HR0.out.later hb1)
        have HZ1 := hidden (HZ0.out.later hb1)
        have hzl := HZ1.out.lt
        rw [HS.out, HSA.out]
        clear hb1
        unfold setV
        have hRq : R < w1.heap.size := by omega
        obtain ⟨s0, s1, s2⟩ := (HR1.out.alloc (.cells #[.int .u64 (word f 0), .int .u64 (word f 1), .int .u64 (word f 2), .int .u64 (word f 3)] 59)).cells
        obtain ⟨t0, t1, t2⟩ := (HR1.out.alloc (.cells #[.int .u64 (word f 0), .int .u64 (word f 1), .int .u64 (word f 2), .int .u64 (word f 3)] 59)).thawed
        have HX1 := hidden (Arr.new w1 (word f 0) (word f 1) (word f 2) (word f 3))
        go_wp2_with fail
        rw [show Value.agg #[.int .u64 (word f 0), .int .u64 (word f 1), .int .u64 (word f 2), .int .u64 (word f 3)] = setV f from rfl]
        refine (setNode_any f _).mono ?_
        rintro e w3 ⟨rfl, hb3⟩
        have hZR : w.heap.size ≠ R := by omega
        have HG3 := hidden (Gr.below (R := R) (w := w) (by (with_reducible (repeat (first | exact HG1.out | apply Gr.alloc | apply Gr.put | apply Gr.own | apply Gr.new | apply Gr.drewN | apply Gr.drew | omega)))) hb3)
        have HR3 := hidden (RdAt.later (R := R) (p := p) (k := q2) (o := o) (by (with_reducible (repeat (first | exact HR1.out | apply RdAt.alloc | apply RdAt.put | apply RdAt.set1 | apply RdAt.set1i | apply RdAt.set2 | apply RdAt.set2i | apply RdAt.other | apply RdAt.drewN | apply RdAt.drew | exact (Int.natCast_succ _).symm | omega)))) hb3)
        have HZ3 := hidden (ZeroAt.later (b := w.heap.size) (by (with_reducible (repeat (first | exact HZ1.out | (apply Blk.newAt; simp; done) | apply Blk.alloc | apply Blk.put | apply Blk.putOther | apply Blk.other | apply Blk.drewN | apply Blk.drew | omega)))) hb3)
        obtain ⟨z0, z1, z2, z3, z4, z5, z6, z7⟩ := HZ3.out.cells
        obtain ⟨f0, f1, f2, f3, f4, f5, f6, f7⟩ := HZ3.out.thawed
        have hzl3 := HZ3.out.lt
        clear hb3
        unfold nodeV
        go_wp2_with fail
        refine bodyPost_ret (results_node2 rfl _ _ w.heap.size (.int .i64 2) (.int .u64 (word f 0)) (.int .u64 (word f 1)) (.int .u64 (word f 2)) (.int .u64 (word f 3)) (.slice none 0 0) (.int .i64 0) (.int .i64 0) rfl (by (with_reducible (repeat (first | exact HZ3.out | (apply Blk.newAt; simp; done) | apply Blk.alloc | apply Blk.put | apply Blk.putOther | apply Blk.other | apply Blk.drewN | apply Blk.drew | omega))))) rfl ?_
        rw [HA.out]
        exact ⟨by (with_reducible (repeat (first | exact HG3.out | apply Gr.alloc | apply Gr.put | apply Gr.own | apply Gr.new | apply Gr.drewN | apply Gr.drew | omega))), _, rfl, setN_at _ _ _, by rw [HQK.out]; (with_reducible (repeat (first | exact HR3.out | apply RdAt.alloc | apply RdAt.put | apply RdAt.set1 | apply RdAt.set1i | apply RdAt.set2 | apply RdAt.set2i | apply RdAt.other | apply RdAt.drewN | apply RdAt.drew | exact (Int.natCast_succ _).symm | omega)))⟩
      · exfalso
        have hn2 : negN (p.drop (k + 1)) = 0 := by unfold negN negE; rw [hcg]; simp [h94]
        rw [List.drop_eq_nil_of_le (by omega)] at hs
        cases hs

end Go.Proofs.Ytjeloflfhofdlaa
