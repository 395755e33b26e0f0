/-
  What the program's Right, Size, Has and Parse answer: whether a node may be, how large it is, whether it has a byte, and which node a text is; conditions: how many parts the node has, the text's length.
-/
import Derived.Test.YtjeloflfhofdlaaEExpr
import Derived.Test.YtjeloflfhofdlaaEWithin
import Derived.Test.YtjeloflfhofdlaaESizeW
import Derived.Test.YtjeloflfhofdlaaECnt
namespace Go.Proofs.Ytjeloflfhofdlaa
open Go.RowKit Go.Proofs.Ytjeloflfhofdlaa.Gl

set_option maxHeartbeats 2000000 in
theorem num_any (n : Int) (w : World) : Calls Try.prog 10 #[.int .i64 n] w fun e w' => e = .returned (.int .i64 n) ∧ w' = w := by
  go_enter Try.func10, Try.ntmps10
  go_wp2
  go_ret
  exact ⟨rfl, rfl⟩

set_option maxHeartbeats 2000000 in
theorem right_any (x : Nd) (v : Value) (w : World) (A : Nat → Prop) (hx : NodeAt w A v x) (hc : cntN x ≤ 1048576) :
    Calls Try.prog 11 #[v] w fun e w' => e = .returned (.bool (rightN x)) ∧ Below w.heap.size w w' := by
  have HX := hidden hx
  obtain ⟨z, y0, y1, y2, y3, sa, sn, sc, lo, hi, rfl⟩ := hx.shapeI
  have HZ0 := hidden (Blk.new w (.int .i64 z) (.int .u64 y0) (.int .u64 y1) (.int .u64 y2) (.int .u64 y3) (.slice sa sn sc) (.int .i64 lo) (.int .i64 hi))
  have HB0 := hidden (Below.refl w.heap.size w)
  clear hx
  go_enter Try.func11, Try.ntmps11
  go_wp2_with fail
  refine (sizeUpTo_any x _ _ A 20001 (by (with_reducible (repeat (first | exact HX.out | apply NodeAt.alloc | apply NodeAt.putN | apply NodeAt.other | apply NodeAt.putO | apply NodeAt.otherO | apply NodeAt.drewN | apply NodeAt.drew | omega)))) hc (by omega) (by omega)).mono ?_
  rintro e w1 ⟨rfl, hb1⟩
  have HB1 := hidden (show Below w.heap.size w w1 from (by (with_reducible (repeat (first | exact HB0.out | apply bel_alloc | apply bel_put | apply bel_set | apply Below.drew | apply below_drewN | omega))) : Below w.heap.size w _).trans (hb1.mono (by simp)))
  have HZ1 := hidden (Blk.later HZ0.out hb1)
  have HX1 := hidden (NodeAt.later (A := A) (v := .agg #[.int .i64 z, .int .u64 y0, .int .u64 y1, .int .u64 y2, .int .u64 y3, .slice sa sn sc, .int .i64 lo, .int .i64 hi]) (d := x) (by (with_reducible (repeat (first | exact HX.out | apply NodeAt.alloc | apply NodeAt.putN | apply NodeAt.other | apply NodeAt.putO | apply NodeAt.otherO | apply NodeAt.drewN | apply NodeAt.drew | omega)))) hb1)
  obtain ⟨z0, z1, z2, z3, z4, z5, z6, z7⟩ := HZ1.out.cells
  clear hb1
  by_cases hs : sizeN x ≤ 20000
  · have hsi : ((min 20001 (sizeN x) : Nat) : Int) ≤ 20000 := by omega
    generalize ((min 20001 (sizeN x) : Nat) : Int) = q at hsi ⊢
    have HR := hidden (show rightN x = withinN x 200 by unfold rightN; simp [hs])
    clear hs
    go_wp2_with fail
    refine (within_any (cntN x) x (Nat.le_refl _) hc 200 _ _ A (by omega) HX1.out).mono ?_
    rintro e w2 ⟨rfl, hb2⟩
    have HB2 := hidden (HB1.out.trans (hb2.mono HB1.out.size))
    clear hb2
    go_wp2
    go_ret
    exact ⟨by rw [HR.out]; rfl, HB2.out⟩
  · have hsi : ¬ ((min 20001 (sizeN x) : Nat) : Int) ≤ 20000 := by omega
    generalize ((min 20001 (sizeN x) : Nat) : Int) = q at hsi ⊢
    have HR := hidden (show rightN x = false by unfold rightN; simp [hs])
    clear hs
    go_wp2_with fail
    go_ret
    exact ⟨by rw [HR.out]; rfl, HB1.out⟩

set_option maxHeartbeats 2000000 in
theorem size_any (x : Nd) (v : Value) (w : World) (A : Nat → Prop) (hx : NodeAt w A v x) (hc : cntN x ≤ 1048576) :
    Calls Try.prog 12 #[v] w fun e w' => e = .returned (.int .i64 (min 1073741824 (sizeN x) : Nat)) ∧ Below w.heap.size w w' := by
  have HX := hidden hx
  obtain ⟨z, y0, y1, y2, y3, sa, sn, sc, lo, hi, rfl⟩ := hx.shapeI
  have HB0 := hidden (Below.refl w.heap.size w)
  clear hx
  go_enter Try.func12, Try.ntmps12
  go_wp2_with fail
  refine (sizeUpTo_any x _ _ A 1073741824 (by (with_reducible (repeat (first | exact HX.out | apply NodeAt.alloc | apply NodeAt.putN | apply NodeAt.other | apply NodeAt.putO | apply NodeAt.otherO | apply NodeAt.drewN | apply NodeAt.drew | omega)))) hc (by omega) (by omega)).mono ?_
  rintro e w1 ⟨rfl, hb1⟩
  have HB1 := hidden (show Below w.heap.size w w1 from (by (with_reducible (repeat (first | exact HB0.out | apply bel_alloc | apply bel_put | apply bel_set | apply Below.drew | apply below_drewN | omega))) : Below w.heap.size w _).trans (hb1.mono (by simp)))
  clear hb1
  obtain ⟨q, hq⟩ : ∃ q : Int, ((min 1073741824 (sizeN x) : Nat) : Int) = q := ⟨_, rfl⟩
  rw [hq]
  have HQ := hidden hq
  clear hq
  go_wp2
  go_ret
  exact ⟨by rw [HQ.out]; rfl, HB1.out⟩

/-- is a byte one of a node's -/
def hasN (x : Nd) (c : Nat) : Bool := match x with | .mk k f _ _ _ => k == 2 && f c
set_option maxHeartbeats 2000000 in
theorem hasE_any (x : Nd) (v : Value) (c : UInt8) (w : World) (A : Nat → Prop) (hx : NodeAt w A v x) :
    Calls Try.prog 16 #[v, .int .u8 c.toNat] w fun e w' => e = .returned (.bool (hasN x c.toNat)) ∧ Below w.heap.size w w' := by
  obtain ⟨k, f, kids, lo, hi⟩ := x
  obtain ⟨kv, rfl, ka, kc, vs, rfl, _⟩ := hx.open
  have HB0 := hidden (Below.refl w.heap.size w)
  clear hx
  unfold nodeV
  by_cases hk : k = 2
  · subst hk
    have HH := hidden (show hasN (.mk 2 f kids lo hi) c.toNat = f c.toNat by unfold hasN; simp)
    go_enter Try.func16, Try.ntmps16
    go_wp2_with fail
    rw [show Value.agg #[.int .u64 (word f 0), .int .u64 (word f 1), .int .u64 (word f 2), .int .u64 (word f 3)] = setV f from rfl]
    refine (has_any f c _).mono ?_
    rintro e w1 ⟨rfl, hb1⟩
    have HB1 := hidden (show Below w.heap.size w w1 from (by (with_reducible (repeat (first | exact HB0.out | apply bel_alloc | apply bel_put | apply bel_set | apply Below.drew | apply below_drewN | omega))) : Below w.heap.size w _).trans (hb1.mono (by simp)))
    clear hb1
    go_wp2
    go_ret
    exact ⟨by rw [HH.out]; rfl, HB1.out⟩
  · have hkb : (k == 2) = false := by rw [beq_eq_false_iff_ne]; exact hk
    have HH := hidden (show hasN (.mk k f kids lo hi) c.toNat = false by show (k == 2 && f c.toNat) = false; rw [hkb]; rfl)
    clear hk
    go_enter Try.func16, Try.ntmps16
    go_wp2_with fail
    go_ret
    exact ⟨by rw [HH.out]; rfl, by (with_reducible (repeat (first | exact HB0.out | apply bel_alloc | apply bel_put | apply bel_set | apply Below.drew | apply below_drewN | omega)))⟩

/-- what Parse answers -/
def PAns (w w' : World) (e : Ending) : Rs Nd → Prop
  | .ok x _ => ∃ v, e = .returned (.tuple #[v, .int .i64 (-1), .int .i64 0]) ∧ NodeAt w' (w.heap.size ≤ ·) v x ∧ cntN x ≤ 2001
  | .er m c => e = .returned (.tuple #[zeroV, .int .i64 m, .int .i64 c]) ∧ c ≠ 0
theorem RdAt.newAt {w : World} {R : Nat} {p : Tx} (hR : R = w.heap.size) : RdAt (w.alloc (.cells #[.string ⟨p.toArray⟩, .int .i64 0, .int .i64 0] 49)) R p 0 ((0 : Nat) : Int) := by
  subst hR
  show (w.heap.push _)[w.heap.size]? = _
  exact Array.getElem?_push_size

set_option maxHeartbeats 8000000 in
theorem parse_any (p : Tx) (w : World) (hp : p.length ≤ 1048576) :
    Calls Try.prog 9 #[S p] w fun e w' => Below w.heap.size w w' ∧ PAns w w' e (topE p) := by
  unfold S
  have HZ0 := hidden (Blk.new w (.int .i64 0) (.int .u64 0) (.int .u64 0) (.int .u64 0) (.int .u64 0) (.slice none 0 0) (.int .i64 0) (.int .i64 0))
  have HB0 := hidden (Below.refl w.heap.size w)
  by_cases hl : 1000 < p.length
  · have hli : (1000 : Int) < p.length := by omega
    have HF := hidden (show topE p = .er 0 5 by unfold topE; rw [if_pos hl])
    go_enter Try.func9, Try.ntmps9
    go_wp2_with fail
    refine bodyPost_ret (results_node3 rfl _ _ w.heap.size (.int .i64 0) (.int .u64 0) (.int .u64 0) (.int .u64 0) (.int .u64 0) (.slice none 0 0) (.int .i64 0) (.int .i64 0) rfl (by (with_reducible (repeat (first | exact HZ0.out | (apply Blk.newAt; simp; done) | apply Blk.alloc | apply Blk.put | apply Blk.putOther | apply Blk.other | apply Blk.drewN | apply Blk.drew | omega))))) rfl ?_
    rw [HF.out]
    exact ⟨by (with_reducible (repeat (first | exact HB0.out | apply bel_alloc | apply bel_put | apply bel_set | apply Below.drew | apply below_drewN | omega))), rfl, by decide⟩
  · have hli : ¬ (1000 : Int) < p.length := by omega
    have hT : topE p = match exprE (grpE 30) p with | .er m c => (Rs.er m c : Rs Nd) | .ok d m => if m < p.length then .er m 2 else if rightN d = true then .ok d m else .er 0 4 := by
      unfold topE
      rw [if_neg hl]
      cases exprE (grpE 30) p <;> rfl
    have HT := hidden hT
    have HX := hidden (expr_all 30 0 rfl)
    clear hT
    go_enter Try.func9, Try.ntmps9
    go_wp2_with fail
    refine (HX.out p 0 (w.heap.size + 1) _ (by omega) (Nat.zero_le _) (RdAt.newAt (by simp))).mono ?_
    rintro e w1 ⟨hg1, ha1⟩
    rw [List.drop_zero] at ha1
    have hs1 : w.heap.size + 2 ≤ w1.heap.size := by have := hg1.size; simp at this; omega
    have HB1 := hidden (show Below w.heap.size w w1 from (by (with_reducible (repeat (first | exact HB0.out | apply bel_alloc | apply bel_put | apply bel_set | apply Below.drew | apply below_drewN | omega))) : Below w.heap.size w _).trans (Gr.toBelow hg1 (by simp; omega) (by omega)))
    have HZ1 := hidden (ZeroAt.gr (b := w.heap.size) (by (with_reducible (repeat (first | exact HZ0.out | (apply Blk.newAt; simp; done) | apply Blk.alloc | apply Blk.put | apply Blk.putOther | apply Blk.other | apply Blk.drewN | apply Blk.drew | omega)))) hg1 (by omega))
    obtain ⟨z0, z1, z2, z3, z4, z5, z6, z7⟩ := HZ1.out.cells
    obtain ⟨f0, f1, f2, f3, f4, f5, f6, f7⟩ := HZ1.out.thawed
    have hzl := HZ1.out.lt
    have HLE := hidden (exprE_le (grpE_tame 30) p)
    cases hx : exprE (grpE 30) p with
    | er m c =>
      rw [hx] at ha1
      obtain ⟨rfl, hc, o', hr1⟩ := ha1
      rw [Nat.zero_add] at hr1
      have HR1 := hidden hr1
      obtain ⟨r0, r1, r2⟩ := hr1.cells
      have hRl := hr1.lt
      have HF := hidden (show topE p = .er m c by rw [HT.out, hx])
      have hcb : ((c : Int) != 0) = true := by rw [bne_iff_ne]; omega
      have HC := hidden hc
      have hcc : ((c : Int) == 0) = false := by rw [beq_eq_false_iff_ne]; omega
      rw [zeroV_is]
      clear hx hr1 hg1
      go_wp2_with fail
      go_region
      go_wp2_with fail
      refine bodyPost_ret (results_node3 rfl _ _ w.heap.size (.int .i64 0) (.int .u64 0) (.int .u64 0) (.int .u64 0) (.int .u64 0) (.slice none 0 0) (.int .i64 0) (.int .i64 0) rfl (by (with_reducible (repeat (first | exact HZ1.out | (apply Blk.newAt; simp; done) | apply Blk.alloc | apply Blk.put | apply Blk.putOther | apply Blk.other | apply Blk.drewN | apply Blk.drew | omega))))) rfl ?_
      rw [HF.out]
      exact ⟨by (with_reducible (repeat (first | exact HB1.out | apply bel_alloc | apply bel_put | apply bel_set | apply Below.drew | apply below_drewN | omega))), rfl, HC.out⟩
    | ok x m =>
      rw [hx] at ha1
      obtain ⟨v, rfl, hn1, hr1⟩ := ha1
      rw [Nat.zero_add] at hr1
      obtain ⟨z, y0, y1, y2, y3, sa, sn, sc, lo, hi, rfl⟩ := hn1.shapeI
      have HN1 := hidden (NodeAt.up (n := w.heap.size + 1) hn1 (by simp))
      have HR1 := hidden hr1
      obtain ⟨r0, r1, r2⟩ := hr1.cells
      have hRl := hr1.lt
      have hm := HLE.out
      rw [hx] at hm
      simp only [Rs.len] at hm
      have hcnt : cntN x ≤ 2001 := by have := exprE_few (grpE_few 30) p x m hx; omega
      have hT2 : topE p = if m < p.length then .er m 2 else if rightN x = true then .ok x m else .er 0 4 := by rw [HT.out, hx]
      by_cases hml : m < p.length
      · have HF := hidden (show topE p = .er m 2 by rw [hT2, if_pos hml])
        have hmi : (m : Int) < p.length := by omega
        clear hx hr1 hg1 hn1 hT2
        go_wp2_with fail
        go_region
        go_wp2_with fail
        refine bodyPost_ret (results_node3 rfl _ _ w.heap.size (.int .i64 0) (.int .u64 0) (.int .u64 0) (.int .u64 0) (.int .u64 0) (.slice none 0 0) (.int .i64 0) (.int .i64 0) rfl (by (with_reducible (repeat (first | exact HZ1.out | (apply Blk.newAt; simp; done) | apply Blk.alloc | apply Blk.put | apply Blk.putOther | apply Blk.other | apply Blk.drewN | apply Blk.drew | omega))))) rfl ?_
        rw [HF.out]
        exact ⟨by (with_reducible (repeat (first | exact HB1.out | apply bel_alloc | apply bel_put | apply bel_set | apply Below.drew | apply below_drewN | omega))), rfl, by decide⟩
      · have hmi : ¬ (m : Int) < p.length := by omega
        have HF2 := hidden (show topE p = if rightN x = true then .ok x m else .er 0 4 by rw [hT2, if_neg hml])
        have HCN := hidden hcnt
        clear hx hr1 hg1 hn1 hT2 hcnt
        have HBN := hidden (Blk.new w1 (.int .i64 z) (.int .u64 y0) (.int .u64 y1) (.int .u64 y2) (.int .u64 y3) (.slice sa sn sc) (.int .i64 lo) (.int .i64 hi))
        go_wp2_with fail
        refine (right_any x _ _ (w.heap.size + 1 ≤ ·) (by (with_reducible (repeat (first | exact HN1.out | apply NodeAt.alloc | apply NodeAt.putN | apply NodeAt.other | apply NodeAt.putO | apply NodeAt.otherO | apply NodeAt.drewN | apply NodeAt.drew | omega)))) (by have := HCN.out; omega)).mono ?_
        rintro e w2 ⟨rfl, hb2⟩
        have HB2 := hidden (show Below w.heap.size w w2 from (by (with_reducible (repeat (first | exact HB1.out | apply bel_alloc | apply bel_put | apply bel_set | apply Below.drew | apply below_drewN | omega))) : Below w.heap.size w _).trans (hb2.mono (by simp; omega)))
        have HZ2 := hidden (ZeroAt.later (b := w.heap.size) (by (with_reducible (repeat (first | exact HZ1.out | (apply Blk.newAt; simp; done) | apply Blk.alloc | apply Blk.put | apply Blk.putOther | apply Blk.other | apply Blk.drewN | apply Blk.drew | omega)))) hb2)
        have HN2 := hidden (NodeAt.later (A := (w.heap.size + 1 ≤ ·)) (v := .agg #[.int .i64 z, .int .u64 y0, .int .u64 y1, .int .u64 y2, .int .u64 y3, .slice sa sn sc, .int .i64 lo, .int .i64 hi]) (d := x) (by (with_reducible (repeat (first | exact HN1.out | apply NodeAt.alloc | apply NodeAt.putN | apply NodeAt.other | apply NodeAt.putO | apply NodeAt.otherO | apply NodeAt.drewN | apply NodeAt.drew | omega)))) hb2)
        have HBN2 := hidden (Blk.later HBN.out hb2)
        clear z0 z1 z2 z3 z4 z5 z6 z7 f0 f1 f2 f3 f4 f5 f6 f7 hb2
        obtain ⟨z0, z1, z2, z3, z4, z5, z6, z7⟩ := HZ2.out.cells
        obtain ⟨f0, f1, f2, f3, f4, f5, f6, f7⟩ := HZ2.out.thawed
        obtain ⟨b0, b1, b2, b3, b4, b5, b6, b7⟩ := HBN2.out.cells
        cases hr : rightN x with
        | false =>
          have HF := hidden (show topE p = .er 0 4 by rw [HF2.out, hr]; rfl)
          clear hr
          go_wp2_with fail
          refine bodyPost_ret (results_node3 rfl _ _ w.heap.size (.int .i64 0) (.int .u64 0) (.int .u64 0) (.int .u64 0) (.int .u64 0) (.slice none 0 0) (.int .i64 0) (.int .i64 0) rfl (by (with_reducible (repeat (first | exact HZ2.out | (apply Blk.newAt; simp; done) | apply Blk.alloc | apply Blk.put | apply Blk.putOther | apply Blk.other | apply Blk.drewN | apply Blk.drew | omega))))) rfl ?_
          rw [HF.out]
          exact ⟨by (with_reducible (repeat (first | exact HB2.out | apply bel_alloc | apply bel_put | apply bel_set | apply Below.drew | apply below_drewN | omega))), rfl, by decide⟩
        | true =>
          have HF := hidden (show topE p = .ok x m by rw [HF2.out, hr]; rfl)
          clear hr
          go_wp2_with fail
          refine bodyPost_ret (results_node3 rfl _ _ w.heap.size (.int .i64 z) (.int .u64 y0) (.int .u64 y1) (.int .u64 y2) (.int .u64 y3) (.slice sa sn sc) (.int .i64 lo) (.int .i64 hi) rfl (by (with_reducible (repeat (first | exact HZ2.out | (apply Blk.newAt; simp; done) | apply Blk.alloc | apply Blk.put | apply Blk.putOther | apply Blk.other | apply Blk.drewN | apply Blk.drew | omega))))) rfl ?_
          rw [HF.out]
          exact ⟨by (with_reducible (repeat (first | exact HB2.out | apply bel_alloc | apply bel_put | apply bel_set | apply Below.drew | apply below_drewN | omega))), _, rfl, by refine NodeAt.up (m := w.heap.size + 1) ?_ (by omega); (with_reducible (repeat (first | exact HN2.out | apply NodeAt.alloc | apply NodeAt.putN | apply NodeAt.other | apply NodeAt.putO | apply NodeAt.otherO | apply NodeAt.drewN | apply NodeAt.drew | omega))), HCN.out⟩

end Go.Proofs.Ytjeloflfhofdlaa
