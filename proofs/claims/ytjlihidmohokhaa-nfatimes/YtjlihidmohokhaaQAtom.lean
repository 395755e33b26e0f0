/-
  What the document's own atom answers, where its branches answer as they should; conditions: the text's length, and that the reader's block holds it.
-/
import Derived.Test.YtjlihidmohokhaaQTimes
import Derived.Deep.RegionHeld3
namespace Go.Proofs.Ytjlihidmohokhaa
open Go.RowKit Go.Proofs.Ytjlihidmohokhaa.Gl

/-- what is kept while an atom is made -/
structure AK (w : World) (R : Nat) (p : Tx) (k d b c : Int) (X : World) : Prop where
  gr : Gr R w X
  rd : RqAt X R p k d b c
  zero : ZeroAt X w.heap.size
theorem AK.drew {w : World} {R : Nat} {p : Tx} {k d b c : Int} {X : World} (h : AK w R p k d b c X) : AK w R p k d b c X.drew := ⟨h.gr.drew, h.rd.drew, h.zero.drew⟩
theorem AK.below {w : World} {R : Nat} {p : Tx} {k d b c : Int} {X X' : World} (h : AK w R p k d b c X) (hb : Below X.heap.size X X') : AK w R p k d b c X' := ⟨h.gr.below hb, h.rd.later hb, ZeroAt.later h.zero hb⟩
theorem only_kept {w : World} {R : Nat} {p : Tx} {k d b c : Int} {X : World} (x : UInt8) (h : AK w R p k d b c X) :
    Calls Try.prog 54 #[.int .u8 x.toNat] X fun e w' => e = .returned (nodeV 2 (spn x.toNat x.toNat) (.slice none 0 0) 0 0) ∧ AK w R p k d b c w' := by
  refine (only_any x X).mono ?_
  rintro e w' ⟨rfl, hb⟩
  exact ⟨rfl, h.below hb⟩
theorem set_none_kept {w : World} {R : Nat} {p : Tx} {k d b c : Int} {X : World} (at_ : Nat) (hp : p.length ≤ 1000) (ha : at_ ≤ p.length) (hs : setE (p.drop at_) = none) (h : AK w R p k d b c X) :
    Calls Try.prog 55 #[S p, .int .i64 at_, .string ⟨#[94]⟩, .bool false] X fun e w' => e = .returned (.tuple #[.slice none 0 0, .bool false, .int .i64 0, .bool false]) ∧ AK w R p k d b c w' := by
  refine (refSet_any p at_ X (by omega) ha).mono ?_
  rintro e w' ⟨hs2, hb⟩
  unfold SetAns at hs2
  rw [hs] at hs2
  exact ⟨hs2, h.below hb⟩
/-- a set that was read -/
def SetGot (n : Nat) (p : Tx) (at_ : Nat) (f : Bs) (m : Nat) (e : Ending) (w' : World) : Prop := ∃ v ms, e = .returned (.tuple #[v, .bool (negE (p.drop at_)), .int .i64 (at_ + m : Nat), .bool true]) ∧ MemsAt w' v ms ∧ ms.length ≤ 1048576 ∧ (∀ q ∈ ms, q.lo < 256 ∧ q.hi < 256) ∧ f = ofB ms (negE (p.drop at_)) ∧ ∀ j, v.ownBlock = some j → n ≤ j
theorem set_some_kept {w : World} {R : Nat} {p : Tx} {k d b c : Int} {X : World} (at_ : Nat) (f : Bs) (m : Nat) (hp : p.length ≤ 1000) (ha : at_ ≤ p.length) (hs : setE (p.drop at_) = some (f, m)) (h : AK w R p k d b c X) :
    Calls Try.prog 55 #[S p, .int .i64 at_, .string ⟨#[94]⟩, .bool false] X fun e w' => SetGot X.heap.size p at_ f m e w' ∧ AK w R p k d b c w' := by
  refine (refSet_any p at_ X (by omega) ha).mono ?_
  rintro e w' ⟨hs2, hb⟩
  unfold SetAns at hs2
  rw [hs] at hs2
  obtain ⟨v, ms, g, he, hm, hlo, hl, hsm, hf, hg⟩ := hs2
  refine ⟨⟨v, ms, he, hm, by omega, hsm, ?_, hlo⟩, h.below hb⟩
  rw [hf, show g = fun c => ms.any fun m => m.has c from funext hg]
  rfl

set_option maxRecDepth 4000 in
set_option maxHeartbeats 8000000 in
theorem qatom_any (d o : Nat) (ho : o + d = 30) (hexp : ∀ d', d = d' + 1 → QReadsTo 21 (exprE (grpE d')) ((o + 1 : Nat) : Int)) : QReads 47 (atomE (grpE d)) (o : Int) := by
  intro p k R w hp hk hr
  have hR := hr.lt
  obtain ⟨r0, r1, r2, r3, r4⟩ := hr.cells
  obtain ⟨t0, t1, t2, t3, t4⟩ := hr.thawed
  have HR0 := hidden hr
  have HZ0 := hidden (Blk.new w (.int .i64 0) (.int .u64 0) (.int .u64 0) (.int .u64 0) (.int .u64 0) (.slice none 0 0) (.int .i64 0) (.int .i64 0))
  clear hr
  have hli : (k : Int) < p.length := by omega
  obtain ⟨c, hc⟩ : ∃ c, c = p.getD k 0 := ⟨_, rfl⟩
  have hb : ∀ h, (⟨p.toArray⟩ : ByteArray)[k]'h = c := fun h => by rw [byte_at, hc]
  have hcg : (p.drop k).getD 0 0 = c := by rw [getD_byte, hc]
  clear hc
  by_cases e40 : c = 40
  · subst e40
    have HA0 := hidden (show atomE (grpE d) (p.drop k) = grpE d (p.drop k) by unfold atomE; simp only []; rw [if_pos hcg])
    clear hcg
    cases d with
    | zero =>
      have HA := hidden (show atomE (grpE 0) (p.drop k) = .er 0 4 by rw [HA0.out]; rfl)
      obtain rfl : o = 30 := by omega
      rw [show ((30 : Nat) : Int) = 30 from rfl] at r2 HR0 ⊢
      clear HA0 hexp
      go_enter Try.func47, Try.ntmps47
      go_wp2_with fail
      refine (fail_good p ((k : Int) + 1) 31 R (k : Int) 4 _ (by (with_reducible (repeat (first | exact HR0.out | apply RqAt.alloc | apply RqAt.put | apply RqAt.set1 | apply RqAt.set1i | apply RqAt.set2 | apply RqAt.set2i | apply RqAt.set3 | apply RqAt.set4 | apply RqAt.other | apply RqAt.drewN | apply RqAt.drew | exact (Int.natCast_succ _).symm | omega))))).mono ?_
      rintro e w1 ⟨rfl, hr1, hg1⟩
      have HR1 := hidden hr1
      have HG1 := hidden (Gr.tr (a := w) (by (with_reducible (repeat (first | exact Gr.refl _ _ | apply Gr.alloc | apply Gr.put | apply Gr.own | apply Gr.new | apply Gr.drewN | apply Gr.drew | omega)))) hg1)
      have HZ1 := hidden (ZeroAt.gr (b := w.heap.size) (by (with_reducible (repeat (first | exact HZ0.out | exact Blk.newAt (by simp) | apply Blk.alloc | apply Blk.put | apply Blk.putOther | apply Blk.other | apply Blk.drewN | apply Blk.drew | omega)))) hg1 (by omega))
      obtain ⟨z0, z1, z2, z3, z4, z5, z6, z7⟩ := HZ1.out.cells
      obtain ⟨f0, f1, f2, f3, f4, f5, f6, f7⟩ := HZ1.out.thawed
      have hzl := HZ1.out.lt
      clear hr1 hg1
      go_wp2_with fail
      refine bodyPost_ret (results_node1 rfl _ _ w.heap.size (.int .i64 0) (.int .u64 0) (.int .u64 0) (.int .u64 0) (.int .u64 0) (.slice none 0 0) (.int .i64 0) (.int .i64 0) rfl (by (with_reducible (repeat (first | exact HZ1.out | exact Blk.newAt (by simp) | apply Blk.alloc | apply Blk.put | apply Blk.putOther | apply Blk.other | apply Blk.drewN | apply Blk.drew | omega))))) rfl ?_
      rw [HA.out]
      exact ⟨by (with_reducible (repeat (first | exact HG1.out | apply Gr.alloc | apply Gr.put | apply Gr.own | apply Gr.new | apply Gr.drewN | apply Gr.drew | omega))), _, plainN 0, rfl, plainN_lit _ _ 0 0 rfl, ((k : Int) + 1), 31, (k : Int), 4, by (with_reducible (repeat (first | exact HR1.out | apply RqAt.alloc | apply RqAt.put | apply RqAt.set1 | apply RqAt.set1i | apply RqAt.set2 | apply RqAt.set2i | apply RqAt.set3 | apply RqAt.set4 | apply RqAt.other | apply RqAt.drewN | apply RqAt.drew | exact (Int.natCast_succ _).symm | omega))), by omega, by decide⟩
    | succ d =>
      have HX := hidden (hexp d rfl)
      have HD := hidden (show (p.drop k).drop 1 = p.drop (k + 1) by rw [List.drop_drop])
      have ho30 : ¬ (30 : Int) < (o : Int) + 1 := by omega
      clear hexp
      go_enter Try.func47, Try.ntmps47
      go_wp2_with fail
      refine (HX.out p (k + 1) R _ hp (by omega) (by (with_reducible (repeat (first | exact HR0.out | apply RqAt.alloc | apply RqAt.put | apply RqAt.set1 | apply RqAt.set1i | apply RqAt.set2 | apply RqAt.set2i | apply RqAt.set3 | apply RqAt.set4 | apply RqAt.other | apply RqAt.drewN | apply RqAt.drew | exact (Int.natCast_succ _).symm | omega))))).mono ?_
      rintro e w1 ⟨hg1, ha1⟩
      have hs1 : w.heap.size + 1 ≤ w1.heap.size := by have := hg1.size; simpa using this
      have HG1 := hidden (Gr.tr (a := w) (by (with_reducible (repeat (first | exact Gr.refl _ _ | apply Gr.alloc | apply Gr.put | apply Gr.own | apply Gr.new | apply Gr.drewN | apply Gr.drew | omega)))) hg1)
      have HZ1 := hidden (ZeroAt.gr (b := w.heap.size) (by (with_reducible (repeat (first | exact HZ0.out | exact Blk.newAt (by simp) | apply Blk.alloc | apply Blk.put | apply Blk.putOther | apply Blk.other | apply Blk.drewN | apply Blk.drew | omega)))) hg1 (by omega))
      obtain ⟨z0, z1, z2, z3, z4, z5, z6, z7⟩ := HZ1.out.cells
      obtain ⟨f0, f1, f2, f3, f4, f5, f6, f7⟩ := HZ1.out.thawed
      have hzl := HZ1.out.lt
      cases hx : exprE (grpE d) (p.drop (k + 1)) with
      | er m c =>
        rw [hx] at ha1
        obtain ⟨v, x, rfl, hn1, kb, db, bb, cb, hr1, hbb, hcb⟩ := ha1
        have HA := hidden (show atomE (grpE (d + 1)) (p.drop k) = .er (1 + m) c by rw [HA0.out]; unfold grpE; rw [HD.out, hx])
        obtain ⟨z, y0, y1, y2, y3, sa, sn, sc, lo, hi, rfl⟩ := hn1.shapeI
        have HR1 := hidden hr1
        obtain ⟨q0, q1, q2, q3, q4⟩ := hr1.cells
        have hRl := hr1.lt
        have hCB := hidden hcb
        clear hx hr1 hg1 hn1 hcb r0 r1 r2 r3 r4 t0 t1 t2 t3 t4
        go_wp2_with fail
        refine (is_bad p kb db bb cb R 41 _ (by (with_reducible (repeat (first | exact HR1.out | apply RqAt.alloc | apply RqAt.put | apply RqAt.set1 | apply RqAt.set1i | apply RqAt.set2 | apply RqAt.set2i | apply RqAt.set3 | apply RqAt.set4 | apply RqAt.other | apply RqAt.drewN | apply RqAt.drew | exact (Int.natCast_succ _).symm | omega)))) hbb).mono ?_
        rintro e w2 ⟨rfl, nq, rfl⟩
        go_wp2_with fail
        refine (fail_bad p kb db bb cb R _ _ _ (by (with_reducible (repeat (first | exact HR1.out | apply RqAt.alloc | apply RqAt.put | apply RqAt.set1 | apply RqAt.set1i | apply RqAt.set2 | apply RqAt.set2i | apply RqAt.set3 | apply RqAt.set4 | apply RqAt.other | apply RqAt.drewN | apply RqAt.drew | exact (Int.natCast_succ _).symm | omega)))) hbb).mono ?_
        rintro e w2 ⟨rfl, rfl⟩
        go_wp2_with fail
        refine bodyPost_ret (results_node1 rfl _ _ w.heap.size (.int .i64 0) (.int .u64 0) (.int .u64 0) (.int .u64 0) (.int .u64 0) (.slice none 0 0) (.int .i64 0) (.int .i64 0) rfl (by (with_reducible (repeat (first | exact HZ1.out | exact Blk.newAt (by simp) | apply Blk.alloc | apply Blk.put | apply Blk.putOther | apply Blk.other | apply Blk.drewN | apply Blk.drew | omega))))) rfl ?_
        rw [HA.out]
        exact ⟨by (with_reducible (repeat (first | exact HG1.out | apply Gr.alloc | apply Gr.put | apply Gr.own | apply Gr.new | apply Gr.drewN | apply Gr.drew | omega))), _, plainN 0, rfl, plainN_lit _ _ 0 0 rfl, kb, db, bb, cb, by (with_reducible (repeat (first | exact HR1.out | apply RqAt.alloc | apply RqAt.put | apply RqAt.set1 | apply RqAt.set1i | apply RqAt.set2 | apply RqAt.set2i | apply RqAt.set3 | apply RqAt.set4 | apply RqAt.other | apply RqAt.drewN | apply RqAt.drew | exact (Int.natCast_succ _).symm | omega))), hbb, hCB.out⟩
      | ok x m =>
        rw [hx] at ha1
        obtain ⟨v, rfl, hn1, hr1⟩ := ha1
        obtain ⟨z, y0, y1, y2, y3, sa, sn, sc, lo, hi, rfl⟩ := hn1.shapeI
        have HN1 := hidden (NodeAt.up (n := w.heap.size + 1) hn1 (by simp))
        have hm := exprE_le (grpE_tame d) (p.drop (k + 1))
        rw [hx, List.length_drop] at hm
        simp only [Rs.len] at hm
        obtain ⟨q, hq⟩ : ∃ q, q = k + 1 + m := ⟨_, rfl⟩
        rw [← hq] at hr1
        have HR1 := hidden hr1
        have hqp : q ≤ p.length := by omega
        have HQ := hidden hq
        have HMB := hidden (meetB_is p q 41 (by decide))
        obtain ⟨q0, q1, q2, q3, q4⟩ := hr1.cells
        obtain ⟨u0, u1, u2, u3, u4⟩ := hr1.thawed
        have hRl := hr1.lt
        have HBN := hidden (Blk.new w1 (.int .i64 z) (.int .u64 y0) (.int .u64 y1) (.int .u64 y2) (.int .u64 y3) (.slice sa sn sc) (.int .i64 lo) (.int .i64 hi))
        cases hmb : ((p.drop q).getD 0 0 == 41) with
        | false =>
          have HA := hidden (show atomE (grpE (d + 1)) (p.drop k) = .er (1 + m) 2 by
            rw [HA0.out]; unfold grpE; rw [HD.out, hx]
            simp only []
            rw [if_neg (by rw [List.drop_drop, show k + (1 + m) = q by omega]; simpa using hmb)])
          have HM := hidden (HMB.out.trans hmb)
          clear hx hr1 hg1 hn1 hmb hm HMB hq r0 r1 r2 r3 r4 t0 t1 t2 t3 t4
          go_wp2_with fail
          refine (is_good p q R _ 41 _ (by omega) (by (with_reducible (repeat (first | exact HR1.out | apply RqAt.alloc | apply RqAt.put | apply RqAt.set1 | apply RqAt.set1i | apply RqAt.set2 | apply RqAt.set2i | apply RqAt.set3 | apply RqAt.set4 | apply RqAt.other | apply RqAt.drewN | apply RqAt.drew | exact (Int.natCast_succ _).symm | omega))))).mono ?_
          rintro e w2 ⟨rfl, nq, rfl⟩
          rw [HM.out]
          go_wp2_with fail
          refine (fail_good p q _ R q 2 _ (by (with_reducible (repeat (first | exact HR1.out | apply RqAt.alloc | apply RqAt.put | apply RqAt.set1 | apply RqAt.set1i | apply RqAt.set2 | apply RqAt.set2i | apply RqAt.set3 | apply RqAt.set4 | apply RqAt.other | apply RqAt.drewN | apply RqAt.drew | exact (Int.natCast_succ _).symm | omega))))).mono ?_
          rintro e w3 ⟨rfl, hr3, hg3⟩
          have HR3 := hidden hr3
          have HG3 := hidden (Gr.tr (a := w) (by (with_reducible (repeat (first | exact HG1.out | apply Gr.alloc | apply Gr.put | apply Gr.own | apply Gr.new | apply Gr.drewN | apply Gr.drew | omega)))) hg3)
          have HZ3 := hidden (ZeroAt.gr (b := w.heap.size) (by (with_reducible (repeat (first | exact HZ1.out | exact Blk.newAt (by simp) | apply Blk.alloc | apply Blk.put | apply Blk.putOther | apply Blk.other | apply Blk.drewN | apply Blk.drew | omega)))) hg3 (by omega))
          clear z0 z1 z2 z3 z4 z5 z6 z7 f0 f1 f2 f3 f4 f5 f6 f7
          obtain ⟨z0, z1, z2, z3, z4, z5, z6, z7⟩ := HZ3.out.cells
          obtain ⟨f0, f1, f2, f3, f4, f5, f6, f7⟩ := HZ3.out.thawed
          have hzl3 := HZ3.out.lt
          clear hr3 hg3
          go_wp2_with fail
          refine bodyPost_ret (results_node1 rfl _ _ w.heap.size (.int .i64 0) (.int .u64 0) (.int .u64 0) (.int .u64 0) (.int .u64 0) (.slice none 0 0) (.int .i64 0) (.int .i64 0) rfl (by (with_reducible (repeat (first | exact HZ3.out | exact Blk.newAt (by simp) | apply Blk.alloc | apply Blk.put | apply Blk.putOther | apply Blk.other | apply Blk.drewN | apply Blk.drew | omega))))) rfl ?_
          rw [HA.out]
          exact ⟨by (with_reducible (repeat (first | exact HG3.out | apply Gr.alloc | apply Gr.put | apply Gr.own | apply Gr.new | apply Gr.drewN | apply Gr.drew | omega))), _, plainN 0, rfl, plainN_lit _ _ 0 0 rfl, q, _, q, 2, by (with_reducible (repeat (first | exact HR3.out | apply RqAt.alloc | apply RqAt.put | apply RqAt.set1 | apply RqAt.set1i | apply RqAt.set2 | apply RqAt.set2i | apply RqAt.set3 | apply RqAt.set4 | apply RqAt.other | apply RqAt.drewN | apply RqAt.drew | exact (Int.natCast_succ _).symm | omega))), by omega, by decide⟩
        | true =>
          have HA := hidden (show atomE (grpE (d + 1)) (p.drop k) = .ok x (m + 2) by
            rw [HA0.out]; unfold grpE; rw [HD.out, hx]
            simp only []
            rw [if_pos (by rw [List.drop_drop, show k + (1 + m) = q by omega]; simpa using hmb)])
          have HM := hidden (HMB.out.trans hmb)
          clear hx hr1 hg1 hn1 hmb hm HMB hq r0 r1 r2 r3 r4 t0 t1 t2 t3 t4
          go_wp2_with fail
          refine (is_good p q R _ 41 _ (by omega) (by (with_reducible (repeat (first | exact HR1.out | apply RqAt.alloc | apply RqAt.put | apply RqAt.set1 | apply RqAt.set1i | apply RqAt.set2 | apply RqAt.set2i | apply RqAt.set3 | apply RqAt.set4 | apply RqAt.other | apply RqAt.drewN | apply RqAt.drew | exact (Int.natCast_succ _).symm | omega))))).mono ?_
          rintro e w2 ⟨rfl, nq, rfl⟩
          rw [HM.out]
          go_wp2_with fail
          refine bodyPost_ret (results_node1 rfl _ _ w.heap.size (.int .i64 z) (.int .u64 y0) (.int .u64 y1) (.int .u64 y2) (.int .u64 y3) (.slice sa sn sc) (.int .i64 lo) (.int .i64 hi) rfl (by (with_reducible (repeat (first | exact HZ1.out | exact Blk.newAt (by simp) | apply Blk.alloc | apply Blk.put | apply Blk.putOther | apply Blk.other | apply Blk.drewN | apply Blk.drew | omega))))) rfl ?_
          rw [HA.out]
          exact ⟨by (with_reducible (repeat (first | exact HG1.out | apply Gr.alloc | apply Gr.put | apply Gr.own | apply Gr.new | apply Gr.drewN | apply Gr.drew | omega))), _, rfl, by refine NodeAt.up (m := w.heap.size + 1) ?_ (by omega); (with_reducible (repeat (first | exact HN1.out | apply NodeAt.alloc | apply NodeAt.putN | apply NodeAt.other | apply NodeAt.putO | apply NodeAt.otherO | apply NodeAt.drewN | apply NodeAt.drew | omega))), by rw [show k + (m + 2) = q + 1 by have := HQ.out; omega]; (with_reducible (repeat (first | exact HR1.out | apply RqAt.alloc | apply RqAt.put | apply RqAt.set1 | apply RqAt.set1i | apply RqAt.set2 | apply RqAt.set2i | apply RqAt.set3 | apply RqAt.set4 | apply RqAt.other | apply RqAt.drewN | apply RqAt.drew | exact (Int.natCast_succ _).symm | omega)))⟩
  have n40 := byte_ne (n := 40) e40
  clear hexp
  by_cases e46 : c = 46
  · subst e46
    have HA := hidden (show atomE (grpE d) (p.drop k) = .ok (setN (othersB none_)) 1 by unfold atomE; simp only []; rw [hcg]; rfl)
    clear hcg
    go_enter Try.func47, Try.ntmps47
    go_wp2_with fail
    refine (of_any (.slice none 0 0) [] true _ (Or.inl ⟨rfl, rfl⟩) (by simp) (fun m hm => by cases hm)).mono ?_
    rintro e w1 ⟨rfl, hb1⟩
    rw [show ofB [] true = othersB none_ from rfl]
    have HG1 := hidden (Gr.below (R := R) (w := w) (by (with_reducible (repeat (first | exact Gr.refl _ _ | apply Gr.alloc | apply Gr.put | apply Gr.own | apply Gr.new | apply Gr.drewN | apply Gr.drew | omega)))) hb1)
    have HR1 := hidden (RqAt.later (R := R) (p := p) (k := (k : Int) + 1) (d := (o : Int)) (b := -1) (c := 0) (by (with_reducible (repeat (first | exact HR0.out | apply RqAt.alloc | apply RqAt.put | apply RqAt.set1 | apply RqAt.set1i | apply RqAt.set2 | apply RqAt.set2i | apply RqAt.set3 | apply RqAt.set4 | apply RqAt.other | apply RqAt.drewN | apply RqAt.drew | exact (Int.natCast_succ _).symm | omega)))) hb1)
    have HZ1 := hidden (ZeroAt.later (b := w.heap.size) (by (with_reducible (repeat (first | exact HZ0.out | exact Blk.newAt (by simp) | apply Blk.alloc | apply Blk.put | apply Blk.putOther | apply Blk.other | apply Blk.drewN | apply Blk.drew | omega)))) hb1)
    obtain ⟨z0, z1, z2, z3, z4, z5, z6, z7⟩ := HZ1.out.cells
    obtain ⟨f0, f1, f2, f3, f4, f5, f6, f7⟩ := HZ1.out.thawed
    have hzl := HZ1.out.lt
    clear hb1
    unfold setV
    go_wp2_with fail
    refine bodyPost_ret (results_node1 rfl _ _ w.heap.size (.int .i64 2) (.int .u64 (word (othersB none_) 0)) (.int .u64 (word (othersB none_) 1)) (.int .u64 (word (othersB none_) 2)) (.int .u64 (word (othersB none_) 3)) (.slice none 0 0) (.int .i64 0) (.int .i64 0) rfl (by (with_reducible (repeat (first | exact HZ1.out | exact Blk.newAt (by simp) | apply Blk.alloc | apply Blk.put | apply Blk.putOther | apply Blk.other | apply Blk.drewN | apply Blk.drew | omega))))) rfl ?_
    rw [HA.out]
    exact ⟨by (with_reducible (repeat (first | exact HG1.out | apply Gr.alloc | apply Gr.put | apply Gr.own | apply Gr.new | apply Gr.drewN | apply Gr.drew | omega))), _, rfl, setN_at _ _ _, by rw [show ((k + 1 : Nat) : Int) = (k : Int) + 1 from rfl]; (with_reducible (repeat (first | exact HR1.out | apply RqAt.alloc | apply RqAt.put | apply RqAt.set1 | apply RqAt.set1i | apply RqAt.set2 | apply RqAt.set2i | apply RqAt.set3 | apply RqAt.set4 | apply RqAt.other | apply RqAt.drewN | apply RqAt.drew | exact (Int.natCast_succ _).symm | omega)))⟩
  have n46 := byte_ne (n := 46) e46
  by_cases e94 : c = 94
  · subst e94
    have HA := hidden (show atomE (grpE d) (p.drop k) = .ok (plainN 6) 1 by unfold atomE; simp only []; rw [hcg]; rfl)
    clear hcg
    go_enter Try.func47, Try.ntmps47
    go_wp2_with fail
    refine bodyPost_ret (results_node1 rfl _ _ w.heap.size (.int .i64 6) (.int .u64 0) (.int .u64 0) (.int .u64 0) (.int .u64 0) (.slice none 0 0) (.int .i64 0) (.int .i64 0) rfl (by (with_reducible (repeat (first | exact HZ0.out | exact Blk.newAt (by simp) | apply Blk.alloc | apply Blk.put | apply Blk.putOther | apply Blk.other | apply Blk.drewN | apply Blk.drew | omega))))) rfl ?_
    rw [HA.out]
    exact ⟨by (with_reducible (repeat (first | exact Gr.refl _ _ | apply Gr.alloc | apply Gr.put | apply Gr.own | apply Gr.new | apply Gr.drewN | apply Gr.drew | omega))), _, rfl, plainN_lit _ _ 6 6 rfl, by (with_reducible (repeat (first | exact HR0.out | apply RqAt.alloc | apply RqAt.put | apply RqAt.set1 | apply RqAt.set1i | apply RqAt.set2 | apply RqAt.set2i | apply RqAt.set3 | apply RqAt.set4 | apply RqAt.other | apply RqAt.drewN | apply RqAt.drew | exact (Int.natCast_succ _).symm | omega)))⟩
  have n94 := byte_ne (n := 94) e94
  by_cases e36 : c = 36
  · subst e36
    have HA := hidden (show atomE (grpE d) (p.drop k) = .ok (plainN 7) 1 by unfold atomE; simp only []; rw [hcg]; rfl)
    clear hcg
    go_enter Try.func47, Try.ntmps47
    go_wp2_with fail
    refine bodyPost_ret (results_node1 rfl _ _ w.heap.size (.int .i64 7) (.int .u64 0) (.int .u64 0) (.int .u64 0) (.int .u64 0) (.slice none 0 0) (.int .i64 0) (.int .i64 0) rfl (by (with_reducible (repeat (first | exact HZ0.out | exact Blk.newAt (by simp) | apply Blk.alloc | apply Blk.put | apply Blk.putOther | apply Blk.other | apply Blk.drewN | apply Blk.drew | omega))))) rfl ?_
    rw [HA.out]
    exact ⟨by (with_reducible (repeat (first | exact Gr.refl _ _ | apply Gr.alloc | apply Gr.put | apply Gr.own | apply Gr.new | apply Gr.drewN | apply Gr.drew | omega))), _, rfl, plainN_lit _ _ 7 7 rfl, by (with_reducible (repeat (first | exact HR0.out | apply RqAt.alloc | apply RqAt.put | apply RqAt.set1 | apply RqAt.set1i | apply RqAt.set2 | apply RqAt.set2i | apply RqAt.set3 | apply RqAt.set4 | apply RqAt.other | apply RqAt.drewN | apply RqAt.drew | exact (Int.natCast_succ _).symm | omega)))⟩
  have n36 := byte_ne (n := 36) e36
  by_cases e92 : c = 92
  · subst e92
    have hpl : (p.drop k).length = p.length - k := List.length_drop
    have HA0 := hidden (show atomE (grpE d) (p.drop k) = (if (p.drop k).length < 2 then .er 1 2 else .ok (setN (spn ((p.drop k).getD 1 0).toNat ((p.drop k).getD 1 0).toNat)) 2) by unfold atomE; simp only []; rw [hcg]; rfl)
    clear hcg
    by_cases hlt : k + 1 < p.length
    · have hlt1 : (k : Int) + 1 < p.length := by omega
      have hge1 : ¬ (p.length : Int) ≤ (k : Int) + 1 := by omega
      have hged : decide ((p.length : Int) ≤ (k : Int) + 1) = false := decide_eq_false hge1
      obtain ⟨x, hx⟩ : ∃ x, x = p.getD (k + 1) 0 := ⟨_, rfl⟩
      obtain ⟨j, hj⟩ : ∃ j, j = k + 1 := ⟨_, rfl⟩
      have hbx : ∀ h, (⟨p.toArray⟩ : ByteArray)[j]'h = x := fun h => by rw [byte_at, hx, hj]
      have HJ := hidden (show (k : Int) + 1 + 1 = (j : Int) + 1 by omega)
      have HJ2 := hidden hj
      have hj0 : (0 : Int) ≤ j := by omega
      have hjl : (j : Int) < p.length := by omega
      have hjn : j < p.length := by omega
      have hjm : ¬ (j : Int) < 0 := by omega
      have hjo : ¬ (p.length : Int) ≤ j := by omega
      have hjv : IntKind.i64.wrap (j : Int) = j := by rw [IntKind.wrap_i64]; omega
      have hjw : IntKind.i64.wrap ((j : Int) + 1 - 1) = j := by rw [IntKind.wrap_i64]; omega
      have HA := hidden (show atomE (grpE d) (p.drop k) = .ok (setN (spn x.toNat x.toNat)) 2 by rw [HA0.out, if_neg (by omega), drop_getD, hx])
      clear HA0 hx hj
      go_enter Try.func47, Try.ntmps47
      go_wp2_with fail
      go_quiet (fail)
      go_upto_region 28 with fail
      generalize hW2 : World.setCell (World.drewN _ _) _ _ = W2
      have HK := hidden (show AK w R p ((j : Int) + 1) (o : Int) (-1) 0 W2 by rw [← hW2, ← HJ.out]; exact ⟨by (with_reducible (repeat (first | exact Gr.refl _ _ | apply Gr.alloc | apply Gr.put | apply Gr.own | apply Gr.new | apply Gr.drewN | apply Gr.drew | omega))), by (with_reducible (repeat (first | exact HR0.out | apply RqAt.alloc | apply RqAt.put | apply RqAt.set1 | apply RqAt.set1i | apply RqAt.set2 | apply RqAt.set2i | apply RqAt.set3 | apply RqAt.set4 | apply RqAt.other | apply RqAt.drewN | apply RqAt.drew | exact (Int.natCast_succ _).symm | omega))), by (with_reducible (repeat (first | exact HZ0.out | exact Blk.newAt (by simp) | apply Blk.alloc | apply Blk.put | apply Blk.putOther | apply Blk.other | apply Blk.drewN | apply Blk.drew | omega)))⟩)
      clear hW2 r0 r1 r2 r3 r4 t0 t1 t2 t3 t4
      have hK := HK.out
      obtain ⟨q0, q1, q2, q3, q4⟩ := hK.rd.cells
      have hRl := hK.rd.lt
      go_region_with (go_at_call 54; refine (only_kept (w := w) (R := R) (p := p) (k := (j : Int) + 1) (d := (o : Int)) (b := -1) (c := 0) x ?_).mono ?_; (· repeat (first | assumption | apply AK.drew)); rintro e w2 ⟨rfl, hK2⟩; obtain ⟨z0, z1, z2, z3, z4, z5, z6, z7⟩ := hK2.zero.cells; obtain ⟨f0, f1, f2, f3, f4, f5, f6, f7⟩ := hK2.zero.thawed; have hzl := hK2.zero.lt; unfold nodeV)
      all_goals
        have HK2 := hidden hK2
        clear hK2 hK
        go_wp2_with fail
        refine bodyPost_ret (results_node1 rfl _ _ w.heap.size (.int .i64 2) (.int .u64 (word (spn x.toNat x.toNat) 0)) (.int .u64 (word (spn x.toNat x.toNat) 1)) (.int .u64 (word (spn x.toNat x.toNat) 2)) (.int .u64 (word (spn x.toNat x.toNat) 3)) (.slice none 0 0) (.int .i64 0) (.int .i64 0) rfl (by (with_reducible (repeat (first | exact HK2.out.zero | exact Blk.newAt (by simp) | apply Blk.alloc | apply Blk.put | apply Blk.putOther | apply Blk.other | apply Blk.drewN | apply Blk.drew | omega))))) rfl ?_
        rw [HA.out]
        exact ⟨by (with_reducible (repeat (first | exact HK2.out.gr | apply Gr.alloc | apply Gr.put | apply Gr.own | apply Gr.new | apply Gr.drewN | apply Gr.drew | omega))), _, rfl, setN_at _ _ _, by rw [show ((k + 2 : Nat) : Int) = (j : Int) + 1 by have := HJ2.out; omega]; (with_reducible (repeat (first | exact HK2.out.rd | apply RqAt.alloc | apply RqAt.put | apply RqAt.set1 | apply RqAt.set1i | apply RqAt.set2 | apply RqAt.set2i | apply RqAt.set3 | apply RqAt.set4 | apply RqAt.other | apply RqAt.drewN | apply RqAt.drew | exact (Int.natCast_succ _).symm | omega)))⟩
    · have hge1 : (p.length : Int) ≤ (k : Int) + 1 := by omega
      have hged : decide ((p.length : Int) ≤ (k : Int) + 1) = true := decide_eq_true hge1
      have HA := hidden (show atomE (grpE d) (p.drop k) = .er 1 2 by rw [HA0.out, if_pos (by omega)])
      clear HA0
      go_enter Try.func47, Try.ntmps47
      go_wp2_with fail
      go_quiet (fail)
      go_wp2_with fail
      refine (fail_good p ((k : Int) + 1) (o : Int) R ((k : Int) + 1) 2 _ (by (with_reducible (repeat (first | exact HR0.out | apply RqAt.alloc | apply RqAt.put | apply RqAt.set1 | apply RqAt.set1i | apply RqAt.set2 | apply RqAt.set2i | apply RqAt.set3 | apply RqAt.set4 | apply RqAt.other | apply RqAt.drewN | apply RqAt.drew | exact (Int.natCast_succ _).symm | omega))))).mono ?_
      rintro e w1 ⟨rfl, hr1, hg1⟩
      have HR1 := hidden hr1
      have HG1 := hidden (Gr.tr (a := w) (by (with_reducible (repeat (first | exact Gr.refl _ _ | apply Gr.alloc | apply Gr.put | apply Gr.own | apply Gr.new | apply Gr.drewN | apply Gr.drew | omega)))) hg1)
      have HZ1 := hidden (ZeroAt.gr (b := w.heap.size) (by (with_reducible (repeat (first | exact HZ0.out | exact Blk.newAt (by simp) | apply Blk.alloc | apply Blk.put | apply Blk.putOther | apply Blk.other | apply Blk.drewN | apply Blk.drew | omega)))) hg1 (by omega))
      obtain ⟨z0, z1, z2, z3, z4, z5, z6, z7⟩ := HZ1.out.cells
      obtain ⟨f0, f1, f2, f3, f4, f5, f6, f7⟩ := HZ1.out.thawed
      have hzl := HZ1.out.lt
      clear hr1 hg1
      go_wp2_with fail
      refine bodyPost_ret (results_node1 rfl _ _ w.heap.size (.int .i64 0) (.int .u64 0) (.int .u64 0) (.int .u64 0) (.int .u64 0) (.slice none 0 0) (.int .i64 0) (.int .i64 0) rfl (by (with_reducible (repeat (first | exact HZ1.out | exact Blk.newAt (by simp) | apply Blk.alloc | apply Blk.put | apply Blk.putOther | apply Blk.other | apply Blk.drewN | apply Blk.drew | omega))))) rfl ?_
      rw [HA.out]
      exact ⟨by (with_reducible (repeat (first | exact HG1.out | apply Gr.alloc | apply Gr.put | apply Gr.own | apply Gr.new | apply Gr.drewN | apply Gr.drew | omega))), _, plainN 0, rfl, plainN_lit _ _ 0 0 rfl, ((k : Int) + 1), (o : Int), ((k : Int) + 1), 2, by (with_reducible (repeat (first | exact HR1.out | apply RqAt.alloc | apply RqAt.put | apply RqAt.set1 | apply RqAt.set1i | apply RqAt.set2 | apply RqAt.set2i | apply RqAt.set3 | apply RqAt.set4 | apply RqAt.other | apply RqAt.drewN | apply RqAt.drew | exact (Int.natCast_succ _).symm | omega))), by omega, by decide⟩
  have n92 := byte_ne (n := 92) e92
  by_cases e91 : c = 91
  · subst e91
    have HA0 := hidden (show atomE (grpE d) (p.drop k) = setAtom (p.drop k) by unfold atomE; simp only []; rw [hcg]; rfl)
    have HD := hidden (show (p.drop k).drop 1 = p.drop (k + 1) by rw [List.drop_drop])
    clear hcg
    cases hs : setE (p.drop (k + 1)) with
    | none =>
      have HA := hidden (show atomE (grpE d) (p.drop k) = .er 0 2 by rw [HA0.out]; unfold setAtom; rw [HD.out, hs])
      have HS := hidden hs
      clear hs HA0
      go_enter Try.func47, Try.ntmps47
      go_upto_region 30 with fail
      generalize hW2 : World.alloc _ _ = W2
      have HK := hidden (show AK w R p ((k : Int) + 1) (o : Int) (-1) 0 W2 by rw [← hW2]; exact ⟨by (with_reducible (repeat (first | exact Gr.refl _ _ | apply Gr.alloc | apply Gr.put | apply Gr.own | apply Gr.new | apply Gr.drewN | apply Gr.drew | omega))), by (with_reducible (repeat (first | exact HR0.out | apply RqAt.alloc | apply RqAt.put | apply RqAt.set1 | apply RqAt.set1i | apply RqAt.set2 | apply RqAt.set2i | apply RqAt.set3 | apply RqAt.set4 | apply RqAt.other | apply RqAt.drewN | apply RqAt.drew | exact (Int.natCast_succ _).symm | omega))), by (with_reducible (repeat (first | exact HZ0.out | exact Blk.newAt (by simp) | apply Blk.alloc | apply Blk.put | apply Blk.putOther | apply Blk.other | apply Blk.drewN | apply Blk.drew | omega)))⟩)
      clear hW2 r0 r1 r2 r3 r4 t0 t1 t2 t3 t4
      have hK := HK.out
      go_region_held3 (fun X => X.cell? ⟨R, 0, none⟩ = some (.string ⟨p.toArray⟩) ∧ X.cell? ⟨R, 1, none⟩ = some (.int .i64 ((k : Int) + 1)))
        (first | exact ⟨(AK.rd (by first | assumption | exact AK.drew (by assumption))).cells.1, (AK.rd (by first | assumption | exact AK.drew (by assumption))).cells.2.1⟩ | assumption)
        ((go_at_call 55; refine (set_none_kept (w := w) (R := R) (p := p) (k := (k : Int) + 1) (d := (o : Int)) (b := -1) (c := 0) (k + 1) hp (by omega) HS.out ?_).mono ?_; (· repeat (first | assumption | apply AK.drew)); rintro e w2 ⟨rfl, hK2⟩))
      all_goals
        have HK2 := hidden hK2
        clear hK2 hK
        have hRl := HK2.out.rd.lt
        go_wp2_with fail
        refine (fail_good p ((k : Int) + 1) (o : Int) R (k : Int) 2 _ (by (with_reducible (repeat (first | exact HK2.out.rd | apply RqAt.alloc | apply RqAt.put | apply RqAt.set1 | apply RqAt.set1i | apply RqAt.set2 | apply RqAt.set2i | apply RqAt.set3 | apply RqAt.set4 | apply RqAt.other | apply RqAt.drewN | apply RqAt.drew | exact (Int.natCast_succ _).symm | omega))))).mono ?_
        rintro e w3 ⟨rfl, hr3, hg3⟩
        have HR3 := hidden hr3
        have HG3 := hidden (Gr.tr (a := w) (by (with_reducible (repeat (first | exact HK2.out.gr | apply Gr.alloc | apply Gr.put | apply Gr.own | apply Gr.new | apply Gr.drewN | apply Gr.drew | omega)))) hg3)
        have HZ1 := hidden (ZeroAt.gr (b := w.heap.size) (by (with_reducible (repeat (first | exact HK2.out.zero | exact Blk.newAt (by simp) | apply Blk.alloc | apply Blk.put | apply Blk.putOther | apply Blk.other | apply Blk.drewN | apply Blk.drew | omega)))) hg3 (by omega))
        obtain ⟨z0, z1, z2, z3, z4, z5, z6, z7⟩ := HZ1.out.cells
        obtain ⟨f0, f1, f2, f3, f4, f5, f6, f7⟩ := HZ1.out.thawed
        have hzl := HZ1.out.lt
        clear hr3 hg3
        go_wp2_with fail
        refine bodyPost_ret (results_node1 rfl _ _ w.heap.size (.int .i64 0) (.int .u64 0) (.int .u64 0) (.int .u64 0) (.int .u64 0) (.slice none 0 0) (.int .i64 0) (.int .i64 0) rfl (by (with_reducible (repeat (first | exact HZ1.out | exact Blk.newAt (by simp) | apply Blk.alloc | apply Blk.put | apply Blk.putOther | apply Blk.other | apply Blk.drewN | apply Blk.drew | omega))))) rfl ?_
        rw [HA.out]
        exact ⟨by (with_reducible (repeat (first | exact HG3.out | apply Gr.alloc | apply Gr.put | apply Gr.own | apply Gr.new | apply Gr.drewN | apply Gr.drew | omega))), _, plainN 0, rfl, plainN_lit _ _ 0 0 rfl, (k : Int) + 1, (o : Int), (k : Int), 2, by (with_reducible (repeat (first | exact HR3.out | apply RqAt.alloc | apply RqAt.put | apply RqAt.set1 | apply RqAt.set1i | apply RqAt.set2 | apply RqAt.set2i | apply RqAt.set3 | apply RqAt.set4 | apply RqAt.other | apply RqAt.drewN | apply RqAt.drew | exact (Int.natCast_succ _).symm | omega))), by omega, by decide⟩
    | some r =>
      obtain ⟨f, m⟩ := r
      have hm := setE_le hs
      rw [List.length_drop] at hm
      have hm2 : m ≤ p.length - (k + 1) := hm.2
      have HA := hidden (show atomE (grpE d) (p.drop k) = .ok (setN f) (1 + m) by rw [HA0.out]; unfold setAtom; rw [HD.out, hs])
      have HS := hidden hs
      obtain ⟨q, hq⟩ : ∃ q, q = k + 1 + m := ⟨_, rfl⟩
      have HQ := hidden hq
      have HG := hidden (show ∀ n e W, SetGot n p (k + 1) f m e W → ∃ v ms, e = .returned (.tuple #[v, .bool (negE (p.drop (k + 1))), .int .i64 q, .bool true]) ∧ MemsAt W v ms ∧ ms.length ≤ 1048576 ∧ (∀ q ∈ ms, q.lo < 256 ∧ q.hi < 256) ∧ f = ofB ms (negE (p.drop (k + 1))) ∧ ∀ j, v.ownBlock = some j → n ≤ j from fun n e W h => by rw [hq]; exact h)
      have hqp : q ≤ p.length := by omega
      obtain ⟨ng, hng⟩ : ∃ ng, ng = negE (p.drop (k + 1)) := ⟨_, rfl⟩
      rw [← hng] at HG
      clear hs HA0 hm hm2 hq hng
      go_enter Try.func47, Try.ntmps47
      go_upto_region 30 with fail
      generalize hW2 : World.alloc _ _ = W2
      have HK := hidden (show AK w R p ((k : Int) + 1) (o : Int) (-1) 0 W2 by rw [← hW2]; exact ⟨by (with_reducible (repeat (first | exact Gr.refl _ _ | apply Gr.alloc | apply Gr.put | apply Gr.own | apply Gr.new | apply Gr.drewN | apply Gr.drew | omega))), by (with_reducible (repeat (first | exact HR0.out | apply RqAt.alloc | apply RqAt.put | apply RqAt.set1 | apply RqAt.set1i | apply RqAt.set2 | apply RqAt.set2i | apply RqAt.set3 | apply RqAt.set4 | apply RqAt.other | apply RqAt.drewN | apply RqAt.drew | exact (Int.natCast_succ _).symm | omega))), by (with_reducible (repeat (first | exact HZ0.out | exact Blk.newAt (by simp) | apply Blk.alloc | apply Blk.put | apply Blk.putOther | apply Blk.other | apply Blk.drewN | apply Blk.drew | omega)))⟩)
      clear hW2 r0 r1 r2 r3 r4 t0 t1 t2 t3 t4
      have hK := HK.out
      go_region_held3 (fun X => X.cell? ⟨R, 0, none⟩ = some (.string ⟨p.toArray⟩) ∧ X.cell? ⟨R, 1, none⟩ = some (.int .i64 ((k : Int) + 1)))
        (first | exact ⟨(AK.rd (by first | assumption | exact AK.drew (by assumption))).cells.1, (AK.rd (by first | assumption | exact AK.drew (by assumption))).cells.2.1⟩ | assumption)
        ((go_at_call 55; refine (set_some_kept (w := w) (R := R) (p := p) (k := (k : Int) + 1) (d := (o : Int)) (b := -1) (c := 0) (k + 1) f m hp (by omega) HS.out ?_).mono ?_; (· repeat (first | assumption | apply AK.drew)); rintro e w2 ⟨hg2, hK2⟩; obtain ⟨v, ms, rfl, hms, hml, hsm, hf, hlo⟩ := HG.out _ _ _ hg2; have HMS := hidden (show MemsAt w2 v ms ∧ ms.length ≤ 1048576 ∧ (∀ q ∈ ms, q.lo < 256 ∧ q.hi < 256) ∧ f = ofB ms ng ∧ v.ownBlock ≠ some R from ⟨hms, hml, hsm, hf, fun e => absurd (hlo R e) (by have := (AK.rd HK.out).lt; simpa using this)⟩); clear hg2 hms hml hsm hf hlo))
      all_goals
        have HK2 := hidden hK2
        clear hK2 hK
        have hRl := HK2.out.rd.lt
        obtain ⟨q0, q1, q2, q3, q4⟩ := HK2.out.rd.cells
        obtain ⟨u0, u1, u2, u3, u4⟩ := HK2.out.rd.thawed
        go_wp2_with fail
        refine (of_any v ms ng _ ?_ HMS.out.2.1 HMS.out.2.2.1).mono ?_
        · exact HMS.out.1.other HMS.out.2.2.2.2
        rintro e w3 ⟨rfl, hb3⟩
        rw [← HMS.out.2.2.2.1]
        have HG3 := hidden (Gr.below (R := R) (w := w) (by (with_reducible (repeat (first | exact HK2.out.gr | apply Gr.alloc | apply Gr.put | apply Gr.own | apply Gr.new | apply Gr.drewN | apply Gr.drew | omega)))) hb3)
        have HR3 := hidden (RqAt.later (R := R) (p := p) (k := (q : Int)) (d := (o : Int)) (b := -1) (c := 0) (by (with_reducible (repeat (first | exact HK2.out.rd | apply RqAt.alloc | apply RqAt.put | apply RqAt.set1 | apply RqAt.set1i | apply RqAt.set2 | apply RqAt.set2i | apply RqAt.set3 | apply RqAt.set4 | apply RqAt.other | apply RqAt.drewN | apply RqAt.drew | exact (Int.natCast_succ _).symm | omega)))) hb3)
        have HZ1 := hidden (ZeroAt.later (b := w.heap.size) (by (with_reducible (repeat (first | exact HK2.out.zero | exact Blk.newAt (by simp) | apply Blk.alloc | apply Blk.put | apply Blk.putOther | apply Blk.other | apply Blk.drewN | apply Blk.drew | omega)))) hb3)
        obtain ⟨z0, z1, z2, z3, z4, z5, z6, z7⟩ := HZ1.out.cells
        obtain ⟨f0, f1, f2, f3, f4, f5, f6, f7⟩ := HZ1.out.thawed
        have hzl := HZ1.out.lt
        clear hb3
        unfold setV
        go_wp2_with fail
        refine bodyPost_ret (results_node1 rfl _ _ w.heap.size (.int .i64 2) (.int .u64 (word f 0)) (.int .u64 (word f 1)) (.int .u64 (word f 2)) (.int .u64 (word f 3)) (.slice none 0 0) (.int .i64 0) (.int .i64 0) rfl (by (with_reducible (repeat (first | exact HZ1.out | exact Blk.newAt (by simp) | apply Blk.alloc | apply Blk.put | apply Blk.putOther | apply Blk.other | apply Blk.drewN | apply Blk.drew | omega))))) rfl ?_
        rw [HA.out]
        exact ⟨by (with_reducible (repeat (first | exact HG3.out | apply Gr.alloc | apply Gr.put | apply Gr.own | apply Gr.new | apply Gr.drewN | apply Gr.drew | omega))), _, rfl, setN_at _ _ _, by rw [show k + (1 + m) = q by have := HQ.out; omega]; (with_reducible (repeat (first | exact HR3.out | apply RqAt.alloc | apply RqAt.put | apply RqAt.set1 | apply RqAt.set1i | apply RqAt.set2 | apply RqAt.set2i | apply RqAt.set3 | apply RqAt.set4 | apply RqAt.other | apply RqAt.drewN | apply RqAt.drew | exact (Int.natCast_succ _).symm | omega)))⟩
  have n91 := byte_ne (n := 91) e91
  by_cases e41 : c = 41
  · subst e41
    have HA := hidden (show atomE (grpE d) (p.drop k) = .er 0 2 by unfold atomE; simp only []; rw [hcg]; rfl)
    clear hcg
    go_enter Try.func47, Try.ntmps47
    go_wp2_with fail
    refine (fail_good p ((k : Int) + 1) (o : Int) R (k : Int) 2 _ (by (with_reducible (repeat (first | exact HR0.out | apply RqAt.alloc | apply RqAt.put | apply RqAt.set1 | apply RqAt.set1i | apply RqAt.set2 | apply RqAt.set2i | apply RqAt.set3 | apply RqAt.set4 | apply RqAt.other | apply RqAt.drewN | apply RqAt.drew | exact (Int.natCast_succ _).symm | omega))))).mono ?_
    rintro e w1 ⟨rfl, hr1, hg1⟩
    have HR1 := hidden hr1
    have HG1 := hidden (Gr.tr (a := w) (by (with_reducible (repeat (first | exact Gr.refl _ _ | apply Gr.alloc | apply Gr.put | apply Gr.own | apply Gr.new | apply Gr.drewN | apply Gr.drew | omega)))) hg1)
    have HZ1 := hidden (ZeroAt.gr (b := w.heap.size) (by (with_reducible (repeat (first | exact HZ0.out | exact Blk.newAt (by simp) | apply Blk.alloc | apply Blk.put | apply Blk.putOther | apply Blk.other | apply Blk.drewN | apply Blk.drew | omega)))) hg1 (by omega))
    obtain ⟨z0, z1, z2, z3, z4, z5, z6, z7⟩ := HZ1.out.cells
    obtain ⟨f0, f1, f2, f3, f4, f5, f6, f7⟩ := HZ1.out.thawed
    have hzl := HZ1.out.lt
    clear hr1 hg1
    go_wp2_with fail
    refine bodyPost_ret (results_node1 rfl _ _ w.heap.size (.int .i64 0) (.int .u64 0) (.int .u64 0) (.int .u64 0) (.int .u64 0) (.slice none 0 0) (.int .i64 0) (.int .i64 0) rfl (by (with_reducible (repeat (first | exact HZ1.out | exact Blk.newAt (by simp) | apply Blk.alloc | apply Blk.put | apply Blk.putOther | apply Blk.other | apply Blk.drewN | apply Blk.drew | omega))))) rfl ?_
    rw [HA.out]
    exact ⟨by (with_reducible (repeat (first | exact HG1.out | apply Gr.alloc | apply Gr.put | apply Gr.own | apply Gr.new | apply Gr.drewN | apply Gr.drew | omega))), _, plainN 0, rfl, plainN_lit _ _ 0 0 rfl, ((k : Int) + 1), (o : Int), (k : Int), 2, by (with_reducible (repeat (first | exact HR1.out | apply RqAt.alloc | apply RqAt.put | apply RqAt.set1 | apply RqAt.set1i | apply RqAt.set2 | apply RqAt.set2i | apply RqAt.set3 | apply RqAt.set4 | apply RqAt.other | apply RqAt.drewN | apply RqAt.drew | exact (Int.natCast_succ _).symm | omega))), by omega, by decide⟩
  have n41 := byte_ne (n := 41) e41
  by_cases e42 : c = 42
  · subst e42
    have HA := hidden (show atomE (grpE d) (p.drop k) = .er 0 2 by unfold atomE; simp only []; rw [hcg]; rfl)
    clear hcg
    go_enter Try.func47, Try.ntmps47
    go_wp2_with fail
    refine (fail_good p ((k : Int) + 1) (o : Int) R (k : Int) 2 _ (by (with_reducible (repeat (first | exact HR0.out | apply RqAt.alloc | apply RqAt.put | apply RqAt.set1 | apply RqAt.set1i | apply RqAt.set2 | apply RqAt.set2i | apply RqAt.set3 | apply RqAt.set4 | apply RqAt.other | apply RqAt.drewN | apply RqAt.drew | exact (Int.natCast_succ _).symm | omega))))).mono ?_
    rintro e w1 ⟨rfl, hr1, hg1⟩
    have HR1 := hidden hr1
    have HG1 := hidden (Gr.tr (a := w) (by (with_reducible (repeat (first | exact Gr.refl _ _ | apply Gr.alloc | apply Gr.put | apply Gr.own | apply Gr.new | apply Gr.drewN | apply Gr.drew | omega)))) hg1)
    have HZ1 := hidden (ZeroAt.gr (b := w.heap.size) (by (with_reducible (repeat (first | exact HZ0.out | exact Blk.newAt (by simp) | apply Blk.alloc | apply Blk.put | apply Blk.putOther | apply Blk.other | apply Blk.drewN | apply Blk.drew | omega)))) hg1 (by omega))
    obtain ⟨z0, z1, z2, z3, z4, z5, z6, z7⟩ := HZ1.out.cells
    obtain ⟨f0, f1, f2, f3, f4, f5, f6, f7⟩ := HZ1.out.thawed
    have hzl := HZ1.out.lt
    clear hr1 hg1
    go_wp2_with fail
    refine bodyPost_ret (results_node1 rfl _ _ w.heap.size (.int .i64 0) (.int .u64 0) (.int .u64 0) (.int .u64 0) (.int .u64 0) (.slice none 0 0) (.int .i64 0) (.int .i64 0) rfl (by (with_reducible (repeat (first | exact HZ1.out | exact Blk.newAt (by simp) | apply Blk.alloc | apply Blk.put | apply Blk.putOther | apply Blk.other | apply Blk.drewN | apply Blk.drew | omega))))) rfl ?_
    rw [HA.out]
    exact ⟨by (with_reducible (repeat (first | exact HG1.out | apply Gr.alloc | apply Gr.put | apply Gr.own | apply Gr.new | apply Gr.drewN | apply Gr.drew | omega))), _, plainN 0, rfl, plainN_lit _ _ 0 0 rfl, ((k : Int) + 1), (o : Int), (k : Int), 2, by (with_reducible (repeat (first | exact HR1.out | apply RqAt.alloc | apply RqAt.put | apply RqAt.set1 | apply RqAt.set1i | apply RqAt.set2 | apply RqAt.set2i | apply RqAt.set3 | apply RqAt.set4 | apply RqAt.other | apply RqAt.drewN | apply RqAt.drew | exact (Int.natCast_succ _).symm | omega))), by omega, by decide⟩
  have n42 := byte_ne (n := 42) e42
  by_cases e43 : c = 43
  · subst e43
    have HA := hidden (show atomE (grpE d) (p.drop k) = .er 0 2 by unfold atomE; simp only []; rw [hcg]; rfl)
    clear hcg
    go_enter Try.func47, Try.ntmps47
    go_wp2_with fail
    refine (fail_good p ((k : Int) + 1) (o : Int) R (k : Int) 2 _ (by (with_reducible (repeat (first | exact HR0.out | apply RqAt.alloc | apply RqAt.put | apply RqAt.set1 | apply RqAt.set1i | apply RqAt.set2 | apply RqAt.set2i | apply RqAt.set3 | apply RqAt.set4 | apply RqAt.other | apply RqAt.drewN | apply RqAt.drew | exact (Int.natCast_succ _).symm | omega))))).mono ?_
    rintro e w1 ⟨rfl, hr1, hg1⟩
    have HR1 := hidden hr1
    have HG1 := hidden (Gr.tr (a := w) (by (with_reducible (repeat (first | exact Gr.refl _ _ | apply Gr.alloc | apply Gr.put | apply Gr.own | apply Gr.new | apply Gr.drewN | apply Gr.drew | omega)))) hg1)
    have HZ1 := hidden (ZeroAt.gr (b := w.heap.size) (by (with_reducible (repeat (first | exact HZ0.out | exact Blk.newAt (by simp) | apply Blk.alloc | apply Blk.put | apply Blk.putOther | apply Blk.other | apply Blk.drewN | apply Blk.drew | omega)))) hg1 (by omega))
    obtain ⟨z0, z1, z2, z3, z4, z5, z6, z7⟩ := HZ1.out.cells
    obtain ⟨f0, f1, f2, f3, f4, f5, f6, f7⟩ := HZ1.out.thawed
    have hzl := HZ1.out.lt
    clear hr1 hg1
    go_wp2_with fail
    refine bodyPost_ret (results_node1 rfl _ _ w.heap.size (.int .i64 0) (.int .u64 0) (.int .u64 0) (.int .u64 0) (.int .u64 0) (.slice none 0 0) (.int .i64 0) (.int .i64 0) rfl (by (with_reducible (repeat (first | exact HZ1.out | exact Blk.newAt (by simp) | apply Blk.alloc | apply Blk.put | apply Blk.putOther | apply Blk.other | apply Blk.drewN | apply Blk.drew | omega))))) rfl ?_
    rw [HA.out]
    exact ⟨by (with_reducible (repeat (first | exact HG1.out | apply Gr.alloc | apply Gr.put | apply Gr.own | apply Gr.new | apply Gr.drewN | apply Gr.drew | omega))), _, plainN 0, rfl, plainN_lit _ _ 0 0 rfl, ((k : Int) + 1), (o : Int), (k : Int), 2, by (with_reducible (repeat (first | exact HR1.out | apply RqAt.alloc | apply RqAt.put | apply RqAt.set1 | apply RqAt.set1i | apply RqAt.set2 | apply RqAt.set2i | apply RqAt.set3 | apply RqAt.set4 | apply RqAt.other | apply RqAt.drewN | apply RqAt.drew | exact (Int.natCast_succ _).symm | omega))), by omega, by decide⟩
  have n43 := byte_ne (n := 43) e43
  by_cases e63 : c = 63
  · subst e63
    have HA := hidden (show atomE (grpE d) (p.drop k) = .er 0 2 by unfold atomE; simp only []; rw [hcg]; rfl)
    clear hcg
    go_enter Try.func47, Try.ntmps47
    go_wp2_with fail
    refine (fail_good p ((k : Int) + 1) (o : Int) R (k : Int) 2 _ (by (with_reducible (repeat (first | exact HR0.out | apply RqAt.alloc | apply RqAt.put | apply RqAt.set1 | apply RqAt.set1i | apply RqAt.set2 | apply RqAt.set2i | apply RqAt.set3 | apply RqAt.set4 | apply RqAt.other | apply RqAt.drewN | apply RqAt.drew | exact (Int.natCast_succ _).symm | omega))))).mono ?_
    rintro e w1 ⟨rfl, hr1, hg1⟩
    have HR1 := hidden hr1
    have HG1 := hidden (Gr.tr (a := w) (by (with_reducible (repeat (first | exact Gr.refl _ _ | apply Gr.alloc | apply Gr.put | apply Gr.own | apply Gr.new | apply Gr.drewN | apply Gr.drew | omega)))) hg1)
    have HZ1 := hidden (ZeroAt.gr (b := w.heap.size) (by (with_reducible (repeat (first | exact HZ0.out | exact Blk.newAt (by simp) | apply Blk.alloc | apply Blk.put | apply Blk.putOther | apply Blk.other | apply Blk.drewN | apply Blk.drew | omega)))) hg1 (by omega))
    obtain ⟨z0, z1, z2, z3, z4, z5, z6, z7⟩ := HZ1.out.cells
    obtain ⟨f0, f1, f2, f3, f4, f5, f6, f7⟩ := HZ1.out.thawed
    have hzl := HZ1.out.lt
    clear hr1 hg1
    go_wp2_with fail
    refine bodyPost_ret (results_node1 rfl _ _ w.heap.size (.int .i64 0) (.int .u64 0) (.int .u64 0) (.int .u64 0) (.int .u64 0) (.slice none 0 0) (.int .i64 0) (.int .i64 0) rfl (by (with_reducible (repeat (first | exact HZ1.out | exact Blk.newAt (by simp) | apply Blk.alloc | apply Blk.put | apply Blk.putOther | apply Blk.other | apply Blk.drewN | apply Blk.drew | omega))))) rfl ?_
    rw [HA.out]
    exact ⟨by (with_reducible (repeat (first | exact HG1.out | apply Gr.alloc | apply Gr.put | apply Gr.own | apply Gr.new | apply Gr.drewN | apply Gr.drew | omega))), _, plainN 0, rfl, plainN_lit _ _ 0 0 rfl, ((k : Int) + 1), (o : Int), (k : Int), 2, by (with_reducible (repeat (first | exact HR1.out | apply RqAt.alloc | apply RqAt.put | apply RqAt.set1 | apply RqAt.set1i | apply RqAt.set2 | apply RqAt.set2i | apply RqAt.set3 | apply RqAt.set4 | apply RqAt.other | apply RqAt.drewN | apply RqAt.drew | exact (Int.natCast_succ _).symm | omega))), by omega, by decide⟩
  have n63 := byte_ne (n := 63) e63
  by_cases e123 : c = 123
  · subst e123
    have HA := hidden (show atomE (grpE d) (p.drop k) = .er 0 2 by unfold atomE; simp only []; rw [hcg]; rfl)
    clear hcg
    go_enter Try.func47, Try.ntmps47
    go_wp2_with fail
    refine (fail_good p ((k : Int) + 1) (o : Int) R (k : Int) 2 _ (by (with_reducible (repeat (first | exact HR0.out | apply RqAt.alloc | apply RqAt.put | apply RqAt.set1 | apply RqAt.set1i | apply RqAt.set2 | apply RqAt.set2i | apply RqAt.set3 | apply RqAt.set4 | apply RqAt.other | apply RqAt.drewN | apply RqAt.drew | exact (Int.natCast_succ _).symm | omega))))).mono ?_
    rintro e w1 ⟨rfl, hr1, hg1⟩
    have HR1 := hidden hr1
    have HG1 := hidden (Gr.tr (a := w) (by (with_reducible (repeat (first | exact Gr.refl _ _ | apply Gr.alloc | apply Gr.put | apply Gr.own | apply Gr.new | apply Gr.drewN | apply Gr.drew | omega)))) hg1)
    have HZ1 := hidden (ZeroAt.gr (b := w.heap.size) (by (with_reducible (repeat (first | exact HZ0.out | exact Blk.newAt (by simp) | apply Blk.alloc | apply Blk.put | apply Blk.putOther | apply Blk.other | apply Blk.drewN | apply Blk.drew | omega)))) hg1 (by omega))
    obtain ⟨z0, z1, z2, z3, z4, z5, z6, z7⟩ := HZ1.out.cells
    obtain ⟨f0, f1, f2, f3, f4, f5, f6, f7⟩ := HZ1.out.thawed
    have hzl := HZ1.out.lt
    clear hr1 hg1
    go_wp2_with fail
    refine bodyPost_ret (results_node1 rfl _ _ w.heap.size (.int .i64 0) (.int .u64 0) (.int .u64 0) (.int .u64 0) (.int .u64 0) (.slice none 0 0) (.int .i64 0) (.int .i64 0) rfl (by (with_reducible (repeat (first | exact HZ1.out | exact Blk.newAt (by simp) | apply Blk.alloc | apply Blk.put | apply Blk.putOther | apply Blk.other | apply Blk.drewN | apply Blk.drew | omega))))) rfl ?_
    rw [HA.out]
    exact ⟨by (with_reducible (repeat (first | exact HG1.out | apply Gr.alloc | apply Gr.put | apply Gr.own | apply Gr.new | apply Gr.drewN | apply Gr.drew | omega))), _, plainN 0, rfl, plainN_lit _ _ 0 0 rfl, ((k : Int) + 1), (o : Int), (k : Int), 2, by (with_reducible (repeat (first | exact HR1.out | apply RqAt.alloc | apply RqAt.put | apply RqAt.set1 | apply RqAt.set1i | apply RqAt.set2 | apply RqAt.set2i | apply RqAt.set3 | apply RqAt.set4 | apply RqAt.other | apply RqAt.drewN | apply RqAt.drew | exact (Int.natCast_succ _).symm | omega))), by omega, by decide⟩
  have n123 := byte_ne (n := 123) e123
  by_cases e124 : c = 124
  · subst e124
    have HA := hidden (show atomE (grpE d) (p.drop k) = .er 0 2 by unfold atomE; simp only []; rw [hcg]; rfl)
    clear hcg
    go_enter Try.func47, Try.ntmps47
    go_wp2_with fail
    refine (fail_good p ((k : Int) + 1) (o : Int) R (k : Int) 2 _ (by (with_reducible (repeat (first | exact HR0.out | apply RqAt.alloc | apply RqAt.put | apply RqAt.set1 | apply RqAt.set1i | apply RqAt.set2 | apply RqAt.set2i | apply RqAt.set3 | apply RqAt.set4 | apply RqAt.other | apply RqAt.drewN | apply RqAt.drew | exact (Int.natCast_succ _).symm | omega))))).mono ?_
    rintro e w1 ⟨rfl, hr1, hg1⟩
    have HR1 := hidden hr1
    have HG1 := hidden (Gr.tr (a := w) (by (with_reducible (repeat (first | exact Gr.refl _ _ | apply Gr.alloc | apply Gr.put | apply Gr.own | apply Gr.new | apply Gr.drewN | apply Gr.drew | omega)))) hg1)
    have HZ1 := hidden (ZeroAt.gr (b := w.heap.size) (by (with_reducible (repeat (first | exact HZ0.out | exact Blk.newAt (by simp) | apply Blk.alloc | apply Blk.put | apply Blk.putOther | apply Blk.other | apply Blk.drewN | apply Blk.drew | omega)))) hg1 (by omega))
    obtain ⟨z0, z1, z2, z3, z4, z5, z6, z7⟩ := HZ1.out.cells
    obtain ⟨f0, f1, f2, f3, f4, f5, f6, f7⟩ := HZ1.out.thawed
    have hzl := HZ1.out.lt
    clear hr1 hg1
    go_wp2_with fail
    refine bodyPost_ret (results_node1 rfl _ _ w.heap.size (.int .i64 0) (.int .u64 0) (.int .u64 0) (.int .u64 0) (.int .u64 0) (.slice none 0 0) (.int .i64 0) (.int .i64 0) rfl (by (with_reducible (repeat (first | exact HZ1.out | exact Blk.newAt (by simp) | apply Blk.alloc | apply Blk.put | apply Blk.putOther | apply Blk.other | apply Blk.drewN | apply Blk.drew | omega))))) rfl ?_
    rw [HA.out]
    exact ⟨by (with_reducible (repeat (first | exact HG1.out | apply Gr.alloc | apply Gr.put | apply Gr.own | apply Gr.new | apply Gr.drewN | apply Gr.drew | omega))), _, plainN 0, rfl, plainN_lit _ _ 0 0 rfl, ((k : Int) + 1), (o : Int), (k : Int), 2, by (with_reducible (repeat (first | exact HR1.out | apply RqAt.alloc | apply RqAt.put | apply RqAt.set1 | apply RqAt.set1i | apply RqAt.set2 | apply RqAt.set2i | apply RqAt.set3 | apply RqAt.set4 | apply RqAt.other | apply RqAt.drewN | apply RqAt.drew | exact (Int.natCast_succ _).symm | omega))), by omega, by decide⟩
  have n124 := byte_ne (n := 124) e124
  have HA := hidden (show atomE (grpE d) (p.drop k) = .ok (setN (spn c.toNat c.toNat)) 1 by
    unfold atomE
    simp only []
    rw [hcg, if_neg e40, if_neg e91, if_neg (by unfold special; simp [e41, e42, e43, e63, e123, e124]), if_neg e94, if_neg e36, if_neg e46, if_neg e92])
  clear hcg e40 e46 e94 e36 e92 e91 e41 e42 e43 e63 e123 e124
  go_enter Try.func47, Try.ntmps47
  go_wp2_with fail
  refine (only_any c _).mono ?_
  rintro e w1 ⟨rfl, hb1⟩
  have HG1 := hidden (Gr.below (R := R) (w := w) (by (with_reducible (repeat (first | exact Gr.refl _ _ | apply Gr.alloc | apply Gr.put | apply Gr.own | apply Gr.new | apply Gr.drewN | apply Gr.drew | omega)))) hb1)
  have HR1 := hidden (RqAt.later (R := R) (p := p) (k := (k : Int) + 1) (d := (o : Int)) (b := -1) (c := 0) (by (with_reducible (repeat (first | exact HR0.out | apply RqAt.alloc | apply RqAt.put | apply RqAt.set1 | apply RqAt.set1i | apply RqAt.set2 | apply RqAt.set2i | apply RqAt.set3 | apply RqAt.set4 | apply RqAt.other | apply RqAt.drewN | apply RqAt.drew | exact (Int.natCast_succ _).symm | omega)))) hb1)
  have HZ1 := hidden (ZeroAt.later (b := w.heap.size) (by (with_reducible (repeat (first | exact HZ0.out | exact Blk.newAt (by simp) | apply Blk.alloc | apply Blk.put | apply Blk.putOther | apply Blk.other | apply Blk.drewN | apply Blk.drew | omega)))) hb1)
  obtain ⟨z0, z1, z2, z3, z4, z5, z6, z7⟩ := HZ1.out.cells
  obtain ⟨f0, f1, f2, f3, f4, f5, f6, f7⟩ := HZ1.out.thawed
  have hzl := HZ1.out.lt
  clear hb1
  unfold nodeV
  go_wp2_with fail
  refine bodyPost_ret (results_node1 rfl _ _ w.heap.size (.int .i64 2) (.int .u64 (word (spn c.toNat c.toNat) 0)) (.int .u64 (word (spn c.toNat c.toNat) 1)) (.int .u64 (word (spn c.toNat c.toNat) 2)) (.int .u64 (word (spn c.toNat c.toNat) 3)) (.slice none 0 0) (.int .i64 0) (.int .i64 0) rfl (by (with_reducible (repeat (first | exact HZ1.out | exact Blk.newAt (by simp) | apply Blk.alloc | apply Blk.put | apply Blk.putOther | apply Blk.other | apply Blk.drewN | apply Blk.drew | omega))))) rfl ?_
  rw [HA.out]
  exact ⟨by (with_reducible (repeat (first | exact HG1.out | apply Gr.alloc | apply Gr.put | apply Gr.own | apply Gr.new | apply Gr.drewN | apply Gr.drew | omega))), _, rfl, setN_at _ _ _, by rw [show ((k + 1 : Nat) : Int) = (k : Int) + 1 from rfl]; (with_reducible (repeat (first | exact HR1.out | apply RqAt.alloc | apply RqAt.put | apply RqAt.set1 | apply RqAt.set1i | apply RqAt.set2 | apply RqAt.set2i | apply RqAt.set3 | apply RqAt.set4 | apply RqAt.other | apply RqAt.drewN | apply RqAt.drew | exact (Int.natCast_succ _).symm | omega)))⟩

end Go.Proofs.Ytjlihidmohokhaa
