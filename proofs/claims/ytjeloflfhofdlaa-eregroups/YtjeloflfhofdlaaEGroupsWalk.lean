/-
  The law EreGroups, called with any two texts, returns true, and nothing of what was in memory has turned; no condition.
-/
import Derived.Test.YtjeloflfhofdlaaQEre
import Derived.Test.YtjeloflfhofdlaaQSame
import Derived.Test.YtjeloflfhofdlaaEAlive
import Derived.Test.YtjeloflfhofdlaaEGPlain
namespace Go.Proofs.Ytjeloflfhofdlaa
open Go.RowKit Go.Proofs.Ytjeloflfhofdlaa.Gl

theorem txt_group (a : Tx) : (⟨#[40]⟩ : ByteArray) ++ ⟨a.toArray⟩ ++ ⟨#[41]⟩ = ⟨(40 :: (a ++ [41])).toArray⟩ := by apply ByteArray.ext; simp
theorem txt_either (a b : Tx) : (⟨#[40, 40]⟩ : ByteArray) ++ ⟨a.toArray⟩ ++ ⟨#[41, 124, 40]⟩ ++ ⟨b.toArray⟩ ++ ⟨#[41, 41]⟩ = ⟨(40 :: 40 :: (a ++ 41 :: 124 :: 40 :: (b ++ [41, 41]))).toArray⟩ := by apply ByteArray.ext; simp
theorem txt_both (a b : Tx) : (⟨#[40]⟩ : ByteArray) ++ ⟨a.toArray⟩ ++ ⟨#[41, 40]⟩ ++ ⟨b.toArray⟩ ++ ⟨#[41]⟩ = ⟨(40 :: (a ++ 41 :: 40 :: (b ++ [41]))).toArray⟩ := by apply ByteArray.ext; simp
theorem zero_at (w : World) (A : Nat → Prop) : NodeAt w A zeroV (plainN 0) := by rw [zeroV_is]; exact plainN_lit w A 0 0 rfl
theorem cnt_plain (k : Int) : cntN (plainN k) = 1 := by unfold plainN; rw [cntN, cnts]
/-- an answer of Ere, whatever it is -/
theorem EAns.out {w w' : World} {e : Ending} {r : Rs Nd} (h : EAns w w' e r) : ∃ v x, ∃ a c : Int, e = .returned (.tuple #[v, .int .i64 a, .int .i64 c]) ∧ NodeAt w' (w.heap.size ≤ ·) v x ∧ cntN x ≤ 2001 ∧ (c ≠ 0 ∨ c = 0 ∧ ∃ m, r = .ok x m) := by
  cases r with
  | ok x m =>
    obtain ⟨v, he, hn, hc⟩ := h
    exact ⟨v, x, _, _, he, hn, hc, Or.inr ⟨rfl, m, rfl⟩⟩
  | er m c =>
    obtain ⟨a, c, he, hc⟩ := h
    exact ⟨zeroV, plainN 0, a, c, he, zero_at _ _, by rw [cnt_plain]; omega, Or.inl hc⟩
/-- an answer of Parse that is a node, or too large -/
theorem PAns.out {w w' : World} {e : Ending} {r : Rs Nd} {z : Nd} (h : PAns w w' e r) (hr : (∃ m, r = .ok z m) ∨ ∃ k, r = .er k 4) : ∃ v x, ∃ a c : Int, e = .returned (.tuple #[v, .int .i64 a, .int .i64 c]) ∧ NodeAt w' (w.heap.size ≤ ·) v x ∧ (c = 4 ∨ c = 0 ∧ x = z ∧ cntN z ≤ 2001) := by
  rcases hr with ⟨m, rfl⟩ | ⟨k, rfl⟩
  · obtain ⟨v, he, hn, hc⟩ := h
    exact ⟨v, z, _, _, he, hn, Or.inr ⟨rfl, rfl, hc⟩⟩
  · obtain ⟨he, hc⟩ := h
    exact ⟨zeroV, plainN 0, _, _, he, zero_at _ _, Or.inl rfl⟩
/-- two nodes side by side -/
theorem pair_at {w : World} {A : Nat → Prop} {b : Nat} {kd : Int} {x y : Nd} {c0 c1 c2 c3 c4 c5 c6 c7 d0 d1 d2 d3 d4 d5 d6 d7 : Value} (hb : w.heap[b]? = some (.cells #[c0, c1, c2, c3, c4, c5, c6, c7, d0, d1, d2, d3, d4, d5, d6, d7] 27)) (hA : A b) (hx : NodeAt w A (.agg #[c0, c1, c2, c3, c4, c5, c6, c7]) x) (hy : NodeAt w A (.agg #[d0, d1, d2, d3, d4, d5, d6, d7]) y) :
    NodeAt w A (.agg #[.int .i64 kd, .int .u64 0, .int .u64 0, .int .u64 0, .int .u64 0, .slice (some ⟨b, 0, none⟩) 2 2, .int .i64 0, .int .i64 0]) (.mk kd none_ [x, y] 0 0) := by
  have hk : KidsAt w A (.slice (some ⟨b, 0, none⟩) 2 2) [x, y] := by
    refine ⟨some ⟨b, 0, none⟩, 2, [.agg #[c0, c1, c2, c3, c4, c5, c6, c7], .agg #[d0, d1, d2, d3, d4, d5, d6, d7]], rfl, rfl, Nat.le_refl _, fun _ => ⟨b, 0, rfl, hA, fun j v hj => ?_⟩, fun j v d hj hd => ?_⟩
    · match j, hj with
      | 0, hj =>
        simp at hj
        subst hj
        exact ⟨c0, c1, c2, c3, c4, c5, c6, c7, rfl, by simp [World.cell?, hb], by simp [World.cell?, hb], by simp [World.cell?, hb], by simp [World.cell?, hb], by simp [World.cell?, hb], by simp [World.cell?, hb], by simp [World.cell?, hb], by simp [World.cell?, hb]⟩
      | 1, hj =>
        simp at hj
        subst hj
        exact ⟨d0, d1, d2, d3, d4, d5, d6, d7, rfl, by simp [World.cell?, hb], by simp [World.cell?, hb], by simp [World.cell?, hb], by simp [World.cell?, hb], by simp [World.cell?, hb], by simp [World.cell?, hb], by simp [World.cell?, hb], by simp [World.cell?, hb]⟩
      | j + 2, hj => simp at hj
    · match j, hj, hd with
      | 0, hj, hd => simp at hj hd; subst hj; subst hd; exact hx
      | 1, hj, hd => simp at hj hd; subst hj; subst hd; exact hy
      | j + 2, hj, hd => simp at hj
  have := hk.shut kd none_ 0 0
  unfold nodeV at this
  rw [show word none_ 0 = 0 from word_none 0, show word none_ 1 = 0 from word_none 1, show word none_ 2 = 0 from word_none 2, show word none_ 3 = 0 from word_none 3] at this
  exact this

set_option maxRecDepth 4000 in
set_option maxHeartbeats 8000000 in
theorem ereGroups_any (a b : Tx) (w : World) (_ha : a.length ≤ 281474976710656) (_hb : b.length ≤ 281474976710656) :
    Calls Try.prog 4 #[S a, S b] w fun e w' => e = .returned (.bool true) ∧ Below w.heap.size w w' := by
  unfold S
  have HEA := hidden (ere_any a)
  have HEB := hidden (ere_any b)
  unfold S at HEA HEB
  go_enter Try.func4, Try.ntmps4
  go_wp2_with fail
  refine (alive_any _).mono ?_
  rintro e w1 ⟨rfl, hb1⟩
  have HB1 := hidden hb1
  clear hb1
  go_wp2_with fail
  refine (HEA.out _).mono ?_
  rintro e w2 ⟨hb2, ha2⟩
  obtain ⟨vx, x, ax, cx, rfl, hnx, hcx, hex⟩ := ha2.out
  obtain ⟨xz, x0, x1, x2, x3, xa, xn, xc, xl, xh, rfl⟩ := hnx.shapeI
  have HB2 := hidden (HB1.out.trans (hb2.mono HB1.out.size))
  have HX2 := hidden hnx
  have HXB2 := hidden (Blk.new w2 (.int .i64 xz) (.int .u64 x0) (.int .u64 x1) (.int .u64 x2) (.int .u64 x3) (.slice xa xn xc) (.int .i64 xl) (.int .i64 xh))
  have HEX := hidden hex
  clear hb2 ha2 hnx hex
  go_wp2_with fail
  refine (HEB.out _).mono ?_
  rintro e w3 ⟨hb3, ha3⟩
  obtain ⟨vy, y, ay, cy, rfl, hny, hcy, hey⟩ := ha3.out
  obtain ⟨yz, y0, y1, y2, y3, ya, yn, yc, yl, yh, rfl⟩ := hny.shapeI
  have HB3 := hidden (show Below w.heap.size w w3 from (by (with_reducible (repeat (first | exact HB2.out | apply bel_alloc | apply bel_put | apply bel_set | apply Below.drew | apply below_drewN | omega))) : Below w.heap.size w _).trans (hb3.mono (by have := HB2.out.size; simp; omega)))
  have HX3 := hidden (NodeAt.later (A := (w1.heap.size ≤ ·)) (v := .agg #[.int .i64 xz, .int .u64 x0, .int .u64 x1, .int .u64 x2, .int .u64 x3, .slice xa xn xc, .int .i64 xl, .int .i64 xh]) (d := x) (by (with_reducible (repeat (first | exact HX2.out | apply NodeAt.alloc | apply NodeAt.putN | apply NodeAt.other | apply NodeAt.putO | apply NodeAt.otherO | apply NodeAt.drewN | apply NodeAt.drew | omega)))) hb3)
  have HXB3 := hidden (Blk.later HXB2.out hb3)
  have HY3 := hidden hny
  have HYB3 := hidden (Blk.new w3 (.int .i64 yz) (.int .u64 y0) (.int .u64 y1) (.int .u64 y2) (.int .u64 y3) (.slice ya yn yc) (.int .i64 yl) (.int .i64 yh))
  have HEY := hidden hey
  have HBN3 := hidden (hb3.size)
  clear hb3 ha3 hny hey
  by_cases hal : 100 < a.length
  · have hali : (100 : Int) < a.length := by omega
    go_wp2_with fail
    go_ret
    exact ⟨rfl, by (with_reducible (repeat (first | exact HB3.out | apply bel_alloc | apply bel_put | apply bel_set | apply Below.drew | apply below_drewN | omega)))⟩
  have hali : ¬ (100 : Int) < a.length := by omega
  by_cases hbl : 100 < b.length
  · have hbli : (100 : Int) < b.length := by omega
    go_wp2_with fail
    go_ret
    exact ⟨rfl, by (with_reducible (repeat (first | exact HB3.out | apply bel_alloc | apply bel_put | apply bel_set | apply Below.drew | apply below_drewN | omega)))⟩
  have hbli : ¬ (100 : Int) < b.length := by omega
  by_cases hcx0 : cx = 0
  · by_cases hcy0 : cy = 0
    · subst hcx0 hcy0
      have hwx : Whole a x := by
        rcases HEX.out with h | ⟨_, m, h⟩
        · exact absurd rfl h
        · exact whole_of_top h
      have hwy : Whole b y := by
        rcases HEY.out with h | ⟨_, m, h⟩
        · exact absurd rfl h
        · exact whole_of_top h
      have HT1 := hidden (top_group hwx (by omega))
      have HT2 := hidden (top_either hwx hwy (by omega) (by omega))
      have HT3 := hidden (top_both hwx hwy (by omega) (by omega))
      have HCX := hidden hcx
      have HCY := hidden hcy
      have hal2 : a.length ≤ 100 := by omega
      have hbl2 : b.length ≤ 100 := by omega
      clear hwx hwy hal hbl
      obtain ⟨AX, hAX⟩ : ∃ A : Nat → Prop, A = (w1.heap.size ≤ ·) := ⟨_, rfl⟩
      rw [← hAX] at HX3
      clear hAX
      have HYA := HY3
      obtain ⟨AY, hAY⟩ : ∃ A : Nat → Prop, NodeAt w3 A (.agg #[.int .i64 yz, .int .u64 y0, .int .u64 y1, .int .u64 y2, .int .u64 y3, .slice ya yn yc, .int .i64 yl, .int .i64 yh]) y := ⟨_, HY3.out⟩
      clear HYA HY3
      have HY3 := hidden hAY
      clear hAY
      go_wp2_with fail
      rw [txt_group]
      refine (parse_any (40 :: (a ++ [41])) _ (by simp; omega)).mono ?_
      rintro e w4 ⟨hb4, ha4⟩
      obtain ⟨vp, np, atp, eg, rfl, hnp, hep⟩ := ha4.out HT1.out
      obtain ⟨pz, p0, p1, p2, p3, pa, pn, pc, pl, ph, rfl⟩ := hnp.shapeI
      have HB4 := hidden (show Below w.heap.size w w4 from (by (with_reducible (repeat (first | exact HB3.out | apply bel_alloc | apply bel_put | apply bel_set | apply Below.drew | apply below_drewN | omega))) : Below w.heap.size w _).trans (hb4.mono (by have := HB3.out.size; simp; omega)))
      have HX4 := hidden (NodeAt.later (A := AX) (v := .agg #[.int .i64 xz, .int .u64 x0, .int .u64 x1, .int .u64 x2, .int .u64 x3, .slice xa xn xc, .int .i64 xl, .int .i64 xh]) (d := x) (by (with_reducible (repeat (first | exact HX3.out | apply NodeAt.alloc | apply NodeAt.putN | apply NodeAt.other | apply NodeAt.putO | apply NodeAt.otherO | apply NodeAt.drewN | apply NodeAt.drew | omega)))) hb4)
      have HXB4 := hidden (Blk.later (b := w2.heap.size) (by (with_reducible (repeat (first | exact HXB3.out | exact Blk.newAt (by simp) | apply Blk.alloc | apply Blk.put | apply Blk.putOther | apply Blk.other | apply Blk.drewN | apply Blk.drew | omega)))) hb4)
      have HY4 := hidden (NodeAt.later (A := AY) (v := .agg #[.int .i64 yz, .int .u64 y0, .int .u64 y1, .int .u64 y2, .int .u64 y3, .slice ya yn yc, .int .i64 yl, .int .i64 yh]) (d := y) (by (with_reducible (repeat (first | exact HY3.out | apply NodeAt.alloc | apply NodeAt.putN | apply NodeAt.other | apply NodeAt.putO | apply NodeAt.otherO | apply NodeAt.drewN | apply NodeAt.drew | omega)))) hb4)
      have HYB4 := hidden (Blk.later (b := w3.heap.size) (by (with_reducible (repeat (first | exact HYB3.out | exact Blk.newAt (by simp) | apply Blk.alloc | apply Blk.put | apply Blk.putOther | apply Blk.other | apply Blk.drewN | apply Blk.drew | omega)))) hb4)
      obtain ⟨AP, hAP⟩ : ∃ A : Nat → Prop, NodeAt w4 A (.agg #[.int .i64 pz, .int .u64 p0, .int .u64 p1, .int .u64 p2, .int .u64 p3, .slice pa pn pc, .int .i64 pl, .int .i64 ph]) np := ⟨_, hnp⟩
      have HP4 := hidden hAP
      have HPB4 := hidden (Blk.new w4 (.int .i64 pz) (.int .u64 p0) (.int .u64 p1) (.int .u64 p2) (.int .u64 p3) (.slice pa pn pc) (.int .i64 pl) (.int .i64 ph))
      have HEP := hidden hep
      clear hb4 ha4 hnp hep hAP HX3 HXB3 HY3 HYB3 HB3
      go_wp2_with fail
      rw [txt_either]
      refine (parse_any (40 :: 40 :: (a ++ 41 :: 124 :: 40 :: (b ++ [41, 41]))) _ (by simp; omega)).mono ?_
      rintro e w5 ⟨hb5, ha5⟩
      obtain ⟨vq, nq, atq, eh, rfl, hnq, heq⟩ := ha5.out HT2.out
      obtain ⟨qz, q0, q1, q2, q3, qa, qn, qc, ql, qh, rfl⟩ := hnq.shapeI
      have HB5 := hidden (show Below w.heap.size w w5 from (by (with_reducible (repeat (first | exact HB4.out | apply bel_alloc | apply bel_put | apply bel_set | apply Below.drew | apply below_drewN | omega))) : Below w.heap.size w _).trans (hb5.mono (by have := HB4.out.size; simp; omega)))
      have HX5 := hidden (NodeAt.later (A := AX) (v := .agg #[.int .i64 xz, .int .u64 x0, .int .u64 x1, .int .u64 x2, .int .u64 x3, .slice xa xn xc, .int .i64 xl, .int .i64 xh]) (d := x) (by (with_reducible (repeat (first | exact HX4.out | apply NodeAt.alloc | apply NodeAt.putN | apply NodeAt.other | apply NodeAt.putO | apply NodeAt.otherO | apply NodeAt.drewN | apply NodeAt.drew | omega)))) hb5)
      have HXB5 := hidden (Blk.later (b := w2.heap.size) (by (with_reducible (repeat (first | exact HXB4.out | exact Blk.newAt (by simp) | apply Blk.alloc | apply Blk.put | apply Blk.putOther | apply Blk.other | apply Blk.drewN | apply Blk.drew | omega)))) hb5)
      have HY5 := hidden (NodeAt.later (A := AY) (v := .agg #[.int .i64 yz, .int .u64 y0, .int .u64 y1, .int .u64 y2, .int .u64 y3, .slice ya yn yc, .int .i64 yl, .int .i64 yh]) (d := y) (by (with_reducible (repeat (first | exact HY4.out | apply NodeAt.alloc | apply NodeAt.putN | apply NodeAt.other | apply NodeAt.putO | apply NodeAt.otherO | apply NodeAt.drewN | apply NodeAt.drew | omega)))) hb5)
      have HYB5 := hidden (Blk.later (b := w3.heap.size) (by (with_reducible (repeat (first | exact HYB4.out | exact Blk.newAt (by simp) | apply Blk.alloc | apply Blk.put | apply Blk.putOther | apply Blk.other | apply Blk.drewN | apply Blk.drew | omega)))) hb5)
      have HP5 := hidden (NodeAt.later (A := AP) (v := .agg #[.int .i64 pz, .int .u64 p0, .int .u64 p1, .int .u64 p2, .int .u64 p3, .slice pa pn pc, .int .i64 pl, .int .i64 ph]) (d := np) (by (with_reducible (repeat (first | exact HP4.out | apply NodeAt.alloc | apply NodeAt.putN | apply NodeAt.other | apply NodeAt.putO | apply NodeAt.otherO | apply NodeAt.drewN | apply NodeAt.drew | omega)))) hb5)
      have HPB5 := hidden (Blk.later (b := w4.heap.size) (by (with_reducible (repeat (first | exact HPB4.out | exact Blk.newAt (by simp) | apply Blk.alloc | apply Blk.put | apply Blk.putOther | apply Blk.other | apply Blk.drewN | apply Blk.drew | omega)))) hb5)
      obtain ⟨AQ, hAQ⟩ : ∃ A : Nat → Prop, NodeAt w5 A (.agg #[.int .i64 qz, .int .u64 q0, .int .u64 q1, .int .u64 q2, .int .u64 q3, .slice qa qn qc, .int .i64 ql, .int .i64 qh]) nq := ⟨_, hnq⟩
      have HQ5 := hidden hAQ
      have HQB5 := hidden (Blk.new w5 (.int .i64 qz) (.int .u64 q0) (.int .u64 q1) (.int .u64 q2) (.int .u64 q3) (.slice qa qn qc) (.int .i64 ql) (.int .i64 qh))
      have HEQ := hidden heq
      clear hb5 ha5 hnq heq hAQ HX4 HXB4 HY4 HYB4 HP4 HPB4 HB4
      go_wp2_with fail
      rw [txt_both]
      refine (parse_any (40 :: (a ++ 41 :: 40 :: (b ++ [41]))) _ (by simp; omega)).mono ?_
      rintro e w6 ⟨hb6, ha6⟩
      obtain ⟨vr, nr, atr, ei, rfl, hnr, her⟩ := ha6.out HT3.out
      obtain ⟨rz, r0, r1, r2, r3, ra, rn, rc, rl, rh, rfl⟩ := hnr.shapeI
      have HB6 := hidden (show Below w.heap.size w w6 from (by (with_reducible (repeat (first | exact HB5.out | apply bel_alloc | apply bel_put | apply bel_set | apply Below.drew | apply below_drewN | omega))) : Below w.heap.size w _).trans (hb6.mono (by have := HB5.out.size; simp; omega)))
      have HX6 := hidden (NodeAt.later (A := AX) (v := .agg #[.int .i64 xz, .int .u64 x0, .int .u64 x1, .int .u64 x2, .int .u64 x3, .slice xa xn xc, .int .i64 xl, .int .i64 xh]) (d := x) (by (with_reducible (repeat (first | exact HX5.out | apply NodeAt.alloc | apply NodeAt.putN | apply NodeAt.other | apply NodeAt.putO | apply NodeAt.otherO | apply NodeAt.drewN | apply NodeAt.drew | omega)))) hb6)
      have HXB6 := hidden (Blk.later (b := w2.heap.size) (by (with_reducible (repeat (first | exact HXB5.out | exact Blk.newAt (by simp) | apply Blk.alloc | apply Blk.put | apply Blk.putOther | apply Blk.other | apply Blk.drewN | apply Blk.drew | omega)))) hb6)
      have HY6 := hidden (NodeAt.later (A := AY) (v := .agg #[.int .i64 yz, .int .u64 y0, .int .u64 y1, .int .u64 y2, .int .u64 y3, .slice ya yn yc, .int .i64 yl, .int .i64 yh]) (d := y) (by (with_reducible (repeat (first | exact HY5.out | apply NodeAt.alloc | apply NodeAt.putN | apply NodeAt.other | apply NodeAt.putO | apply NodeAt.otherO | apply NodeAt.drewN | apply NodeAt.drew | omega)))) hb6)
      have HYB6 := hidden (Blk.later (b := w3.heap.size) (by (with_reducible (repeat (first | exact HYB5.out | exact Blk.newAt (by simp) | apply Blk.alloc | apply Blk.put | apply Blk.putOther | apply Blk.other | apply Blk.drewN | apply Blk.drew | omega)))) hb6)
      have HP6 := hidden (NodeAt.later (A := AP) (v := .agg #[.int .i64 pz, .int .u64 p0, .int .u64 p1, .int .u64 p2, .int .u64 p3, .slice pa pn pc, .int .i64 pl, .int .i64 ph]) (d := np) (by (with_reducible (repeat (first | exact HP5.out | apply NodeAt.alloc | apply NodeAt.putN | apply NodeAt.other | apply NodeAt.putO | apply NodeAt.otherO | apply NodeAt.drewN | apply NodeAt.drew | omega)))) hb6)
      have HPB6 := hidden (Blk.later (b := w4.heap.size) (by (with_reducible (repeat (first | exact HPB5.out | exact Blk.newAt (by simp) | apply Blk.alloc | apply Blk.put | apply Blk.putOther | apply Blk.other | apply Blk.drewN | apply Blk.drew | omega)))) hb6)
      have HQ6 := hidden (NodeAt.later (A := AQ) (v := .agg #[.int .i64 qz, .int .u64 q0, .int .u64 q1, .int .u64 q2, .int .u64 q3, .slice qa qn qc, .int .i64 ql, .int .i64 qh]) (d := nq) (by (with_reducible (repeat (first | exact HQ5.out | apply NodeAt.alloc | apply NodeAt.putN | apply NodeAt.other | apply NodeAt.putO | apply NodeAt.otherO | apply NodeAt.drewN | apply NodeAt.drew | omega)))) hb6)
      have HQB6 := hidden (Blk.later (b := w5.heap.size) (by (with_reducible (repeat (first | exact HQB5.out | exact Blk.newAt (by simp) | apply Blk.alloc | apply Blk.put | apply Blk.putOther | apply Blk.other | apply Blk.drewN | apply Blk.drew | omega)))) hb6)
      obtain ⟨AR, hAR⟩ : ∃ A : Nat → Prop, NodeAt w6 A (.agg #[.int .i64 rz, .int .u64 r0, .int .u64 r1, .int .u64 r2, .int .u64 r3, .slice ra rn rc, .int .i64 rl, .int .i64 rh]) nr := ⟨_, hnr⟩
      have HR6 := hidden hAR
      have HRB6 := hidden (Blk.new w6 (.int .i64 rz) (.int .u64 r0) (.int .u64 r1) (.int .u64 r2) (.int .u64 r3) (.slice ra rn rc) (.int .i64 rl) (.int .i64 rh))
      have HER := hidden her
      clear hb6 ha6 hnr her hAR HX5 HXB5 HY5 HYB5 HP5 HPB5 HQ5 HQB5 HB5
      by_cases hg4 : eg = 4
      · subst hg4
        go_wp2_with (go_at_call 10; refine (num_any _ _).mono ?_; rintro e w' ⟨rfl, rfl⟩)
        go_ret
        exact ⟨rfl, by (with_reducible (repeat (first | exact HB6.out | apply bel_alloc | apply bel_put | apply bel_set | apply Below.drew | apply below_drewN | omega)))⟩
      have hg4b : (eg == 4) = false := by rw [beq_eq_false_iff_ne]; exact hg4
      by_cases hh4 : eh = 4
      · subst hh4
        go_wp2_with (go_at_call 10; refine (num_any _ _).mono ?_; rintro e w' ⟨rfl, rfl⟩)
        go_ret
        exact ⟨rfl, by (with_reducible (repeat (first | exact HB6.out | apply bel_alloc | apply bel_put | apply bel_set | apply Below.drew | apply below_drewN | omega)))⟩
      have hh4b : (eh == 4) = false := by rw [beq_eq_false_iff_ne]; exact hh4
      by_cases hi4 : ei = 4
      · subst hi4
        go_wp2_with (go_at_call 10; refine (num_any _ _).mono ?_; rintro e w' ⟨rfl, rfl⟩)
        go_ret
        exact ⟨rfl, by (with_reducible (repeat (first | exact HB6.out | apply bel_alloc | apply bel_put | apply bel_set | apply Below.drew | apply below_drewN | omega)))⟩
      have hi4b : (ei == 4) = false := by rw [beq_eq_false_iff_ne]; exact hi4
      obtain ⟨rfl, rfl, hcp⟩ : eg = 0 ∧ np = x ∧ cntN x ≤ 2001 := by
        rcases HEP.out with h | h
        · exact absurd h hg4
        · exact h
      obtain ⟨rfl, rfl, hcq⟩ : eh = 0 ∧ nq = .mk 4 none_ [np, y] 0 0 ∧ cntN (.mk 4 none_ [np, y] 0 0) ≤ 2001 := by
        rcases HEQ.out with h | h
        · exact absurd h hh4
        · exact h
      obtain ⟨rfl, rfl, hcr⟩ : ei = 0 ∧ nr = .mk 3 none_ [np, y] 0 0 ∧ cntN (.mk 3 none_ [np, y] 0 0) ≤ 2001 := by
        rcases HER.out with h | h
        · exact absurd h hi4
        · exact h
      clear hg4 hg4b hh4 hh4b hi4 hi4b HEP HEQ HER
      have HSIZE := hidden (show w.heap.size ≤ w2.heap.size ∧ w2.heap.size < w6.heap.size from ⟨HB2.out.size, HXB6.out.lt⟩)
      obtain ⟨cx0, cx1, cx2, cx3, cx4, cx5, cx6, cx7⟩ := HXB6.out.cells
      have hcxl := HXB6.out.lt
      obtain ⟨cy0, cy1, cy2, cy3, cy4, cy5, cy6, cy7⟩ := HYB6.out.cells
      have hcyl := HYB6.out.lt
      obtain ⟨cp0, cp1, cp2, cp3, cp4, cp5, cp6, cp7⟩ := HPB6.out.cells
      have hcpl := HPB6.out.lt
      obtain ⟨cq0, cq1, cq2, cq3, cq4, cq5, cq6, cq7⟩ := HQB6.out.cells
      have hcql := HQB6.out.lt
      obtain ⟨cr0, cr1, cr2, cr3, cr4, cr5, cr6, cr7⟩ := HRB6.out.cells
      have hcrl := HRB6.out.lt
      go_wp2_with (go_at_call 10; refine (num_any _ _).mono ?_; rintro e w' ⟨rfl, rfl⟩)
      refine (same_any (cntN np) np (Nat.le_refl _) (by omega) _ _ _ AP AX (by (with_reducible (repeat (first | exact HP6.out | apply NodeAt.alloc | apply NodeAt.putN | apply NodeAt.other | apply NodeAt.putO | apply NodeAt.otherO | apply NodeAt.drewN | apply NodeAt.drew | omega)))) (by (with_reducible (repeat (first | exact HX6.out | apply NodeAt.alloc | apply NodeAt.putN | apply NodeAt.other | apply NodeAt.putO | apply NodeAt.otherO | apply NodeAt.drewN | apply NodeAt.drew | omega))))).mono ?_
      rintro e w7 ⟨rfl, hb7⟩
      have HB7 := hidden (show Below w.heap.size w w7 from (by (with_reducible (repeat (first | exact HB6.out | apply bel_alloc | apply bel_put | apply bel_set | apply Below.drew | apply below_drewN | omega))) : Below w.heap.size w _).trans (hb7.mono (by have := HB6.out.size; simp; omega)))
      have HX7 := hidden (NodeAt.later (A := AX) (v := .agg #[.int .i64 xz, .int .u64 x0, .int .u64 x1, .int .u64 x2, .int .u64 x3, .slice xa xn xc, .int .i64 xl, .int .i64 xh]) (d := np) (by (with_reducible (repeat (first | exact HX6.out | apply NodeAt.alloc | apply NodeAt.putN | apply NodeAt.other | apply NodeAt.putO | apply NodeAt.otherO | apply NodeAt.drewN | apply NodeAt.drew | omega)))) hb7)
      have HXB7 := hidden (Blk.later (b := w2.heap.size) (by (with_reducible (repeat (first | exact HXB6.out | exact Blk.newAt (by simp) | apply Blk.alloc | apply Blk.put | apply Blk.putOther | apply Blk.other | apply Blk.drewN | apply Blk.drew | omega)))) hb7)
      have HY7 := hidden (NodeAt.later (A := AY) (v := .agg #[.int .i64 yz, .int .u64 y0, .int .u64 y1, .int .u64 y2, .int .u64 y3, .slice ya yn yc, .int .i64 yl, .int .i64 yh]) (d := y) (by (with_reducible (repeat (first | exact HY6.out | apply NodeAt.alloc | apply NodeAt.putN | apply NodeAt.other | apply NodeAt.putO | apply NodeAt.otherO | apply NodeAt.drewN | apply NodeAt.drew | omega)))) hb7)
      have HYB7 := hidden (Blk.later (b := w3.heap.size) (by (with_reducible (repeat (first | exact HYB6.out | exact Blk.newAt (by simp) | apply Blk.alloc | apply Blk.put | apply Blk.putOther | apply Blk.other | apply Blk.drewN | apply Blk.drew | omega)))) hb7)
      have HQ7 := hidden (NodeAt.later (A := AQ) (v := .agg #[.int .i64 qz, .int .u64 q0, .int .u64 q1, .int .u64 q2, .int .u64 q3, .slice qa qn qc, .int .i64 ql, .int .i64 qh]) (d := (.mk 4 none_ [np, y] 0 0)) (by (with_reducible (repeat (first | exact HQ6.out | apply NodeAt.alloc | apply NodeAt.putN | apply NodeAt.other | apply NodeAt.putO | apply NodeAt.otherO | apply NodeAt.drewN | apply NodeAt.drew | omega)))) hb7)
      have HQB7 := hidden (Blk.later (b := w5.heap.size) (by (with_reducible (repeat (first | exact HQB6.out | exact Blk.newAt (by simp) | apply Blk.alloc | apply Blk.put | apply Blk.putOther | apply Blk.other | apply Blk.drewN | apply Blk.drew | omega)))) hb7)
      have HR7 := hidden (NodeAt.later (A := AR) (v := .agg #[.int .i64 rz, .int .u64 r0, .int .u64 r1, .int .u64 r2, .int .u64 r3, .slice ra rn rc, .int .i64 rl, .int .i64 rh]) (d := (.mk 3 none_ [np, y] 0 0)) (by (with_reducible (repeat (first | exact HR6.out | apply NodeAt.alloc | apply NodeAt.putN | apply NodeAt.other | apply NodeAt.putO | apply NodeAt.otherO | apply NodeAt.drewN | apply NodeAt.drew | omega)))) hb7)
      have HRB7 := hidden (Blk.later (b := w6.heap.size) (by (with_reducible (repeat (first | exact HRB6.out | exact Blk.newAt (by simp) | apply Blk.alloc | apply Blk.put | apply Blk.putOther | apply Blk.other | apply Blk.drewN | apply Blk.drew | omega)))) hb7)
      clear hb7 cx0 cx1 cx2 cx3 cx4 cx5 cx6 cx7 cy0 cy1 cy2 cy3 cy4 cy5 cy6 cy7 cp0 cp1 cp2 cp3 cp4 cp5 cp6 cp7 cq0 cq1 cq2 cq3 cq4 cq5 cq6 cq7 cr0 cr1 cr2 cr3 cr4 cr5 cr6 cr7
      obtain ⟨cx0, cx1, cx2, cx3, cx4, cx5, cx6, cx7⟩ := HXB7.out.cells
      have hcxl := HXB7.out.lt
      obtain ⟨cy0, cy1, cy2, cy3, cy4, cy5, cy6, cy7⟩ := HYB7.out.cells
      have hcyl := HYB7.out.lt
      obtain ⟨cq0, cq1, cq2, cq3, cq4, cq5, cq6, cq7⟩ := HQB7.out.cells
      have hcql := HQB7.out.lt
      obtain ⟨cr0, cr1, cr2, cr3, cr4, cr5, cr6, cr7⟩ := HRB7.out.cells
      have hcrl := HRB7.out.lt
      have HPX7 := hidden (show NodeAt w7 (fun _ => True) (.agg #[.int .i64 xz, .int .u64 x0, .int .u64 x1, .int .u64 x2, .int .u64 x3, .slice xa xn xc, .int .i64 xl, .int .i64 xh]) np from HX7.out.keep fun _ _ _ => ⟨rfl, trivial⟩)
      have HPY7 := hidden (show NodeAt w7 (fun _ => True) (.agg #[.int .i64 yz, .int .u64 y0, .int .u64 y1, .int .u64 y2, .int .u64 y3, .slice ya yn yc, .int .i64 yl, .int .i64 yh]) y from HY7.out.keep fun _ _ _ => ⟨rfl, trivial⟩)
      go_wp2_with fail
      refine (same_any _ (.mk 4 none_ [np, y] 0 0) (Nat.le_refl _) (by omega) _ _ _ AQ (fun _ => True) (by (with_reducible (repeat (first | exact HQ7.out | apply NodeAt.alloc | apply NodeAt.putN | apply NodeAt.other | apply NodeAt.putO | apply NodeAt.otherO | apply NodeAt.drewN | apply NodeAt.drew | omega)))) (pair_at (x := np) (y := y) (by show (w7.heap.push _)[w7.heap.size]? = _; exact Array.getElem?_push_size) trivial (HPX7.out.alloc _) (HPY7.out.alloc _))).mono ?_
      rintro e w8 ⟨rfl, hb8⟩
      have HB8 := hidden (show Below w.heap.size w w8 from (by (with_reducible (repeat (first | exact HB7.out | apply bel_alloc | apply bel_put | apply bel_set | apply Below.drew | apply below_drewN | omega))) : Below w.heap.size w _).trans (hb8.mono (by have := HB7.out.size; simp; omega)))
      have HX8 := hidden (NodeAt.later (A := AX) (v := .agg #[.int .i64 xz, .int .u64 x0, .int .u64 x1, .int .u64 x2, .int .u64 x3, .slice xa xn xc, .int .i64 xl, .int .i64 xh]) (d := np) (by (with_reducible (repeat (first | exact HX7.out | apply NodeAt.alloc | apply NodeAt.putN | apply NodeAt.other | apply NodeAt.putO | apply NodeAt.otherO | apply NodeAt.drewN | apply NodeAt.drew | omega)))) hb8)
      have HXB8 := hidden (Blk.later (b := w2.heap.size) (by (with_reducible (repeat (first | exact HXB7.out | exact Blk.newAt (by simp) | apply Blk.alloc | apply Blk.put | apply Blk.putOther | apply Blk.other | apply Blk.drewN | apply Blk.drew | omega)))) hb8)
      have HY8 := hidden (NodeAt.later (A := AY) (v := .agg #[.int .i64 yz, .int .u64 y0, .int .u64 y1, .int .u64 y2, .int .u64 y3, .slice ya yn yc, .int .i64 yl, .int .i64 yh]) (d := y) (by (with_reducible (repeat (first | exact HY7.out | apply NodeAt.alloc | apply NodeAt.putN | apply NodeAt.other | apply NodeAt.putO | apply NodeAt.otherO | apply NodeAt.drewN | apply NodeAt.drew | omega)))) hb8)
      have HYB8 := hidden (Blk.later (b := w3.heap.size) (by (with_reducible (repeat (first | exact HYB7.out | exact Blk.newAt (by simp) | apply Blk.alloc | apply Blk.put | apply Blk.putOther | apply Blk.other | apply Blk.drewN | apply Blk.drew | omega)))) hb8)
      have HR8 := hidden (NodeAt.later (A := AR) (v := .agg #[.int .i64 rz, .int .u64 r0, .int .u64 r1, .int .u64 r2, .int .u64 r3, .slice ra rn rc, .int .i64 rl, .int .i64 rh]) (d := (.mk 3 none_ [np, y] 0 0)) (by (with_reducible (repeat (first | exact HR7.out | apply NodeAt.alloc | apply NodeAt.putN | apply NodeAt.other | apply NodeAt.putO | apply NodeAt.otherO | apply NodeAt.drewN | apply NodeAt.drew | omega)))) hb8)
      have HRB8 := hidden (Blk.later (b := w6.heap.size) (by (with_reducible (repeat (first | exact HRB7.out | exact Blk.newAt (by simp) | apply Blk.alloc | apply Blk.put | apply Blk.putOther | apply Blk.other | apply Blk.drewN | apply Blk.drew | omega)))) hb8)
      clear hb8 cx0 cx1 cx2 cx3 cx4 cx5 cx6 cx7 cy0 cy1 cy2 cy3 cy4 cy5 cy6 cy7 cq0 cq1 cq2 cq3 cq4 cq5 cq6 cq7 cr0 cr1 cr2 cr3 cr4 cr5 cr6 cr7
      obtain ⟨cx0, cx1, cx2, cx3, cx4, cx5, cx6, cx7⟩ := HXB8.out.cells
      have hcxl := HXB8.out.lt
      obtain ⟨cy0, cy1, cy2, cy3, cy4, cy5, cy6, cy7⟩ := HYB8.out.cells
      have hcyl := HYB8.out.lt
      obtain ⟨cr0, cr1, cr2, cr3, cr4, cr5, cr6, cr7⟩ := HRB8.out.cells
      have hcrl := HRB8.out.lt
      have HPX8 := hidden (show NodeAt w8 (fun _ => True) (.agg #[.int .i64 xz, .int .u64 x0, .int .u64 x1, .int .u64 x2, .int .u64 x3, .slice xa xn xc, .int .i64 xl, .int .i64 xh]) np from HX8.out.keep fun _ _ _ => ⟨rfl, trivial⟩)
      have HPY8 := hidden (show NodeAt w8 (fun _ => True) (.agg #[.int .i64 yz, .int .u64 y0, .int .u64 y1, .int .u64 y2, .int .u64 y3, .slice ya yn yc, .int .i64 yl, .int .i64 yh]) y from HY8.out.keep fun _ _ _ => ⟨rfl, trivial⟩)
      go_wp2_with fail
      refine (same_any _ (.mk 3 none_ [np, y] 0 0) (Nat.le_refl _) (by omega) _ _ _ AR (fun _ => True) (by (with_reducible (repeat (first | exact HR8.out | apply NodeAt.alloc | apply NodeAt.putN | apply NodeAt.other | apply NodeAt.putO | apply NodeAt.otherO | apply NodeAt.drewN | apply NodeAt.drew | omega)))) (pair_at (x := np) (y := y) (by show (w8.heap.push _)[w8.heap.size]? = _; exact Array.getElem?_push_size) trivial (HPX8.out.alloc _) (HPY8.out.alloc _))).mono ?_
      rintro e w9 ⟨rfl, hb9⟩
      have HB9 := hidden (show Below w.heap.size w w9 from (by (with_reducible (repeat (first | exact HB8.out | apply bel_alloc | apply bel_put | apply bel_set | apply Below.drew | apply below_drewN | omega))) : Below w.heap.size w _).trans (hb9.mono (by have := HB8.out.size; simp; omega)))
      clear hb9
      go_wp2_with fail
      go_ret
      exact ⟨rfl, HB9.out⟩
    · have hcyb : (cy != 0) = true := by rw [bne_iff_ne]; exact hcy0
      subst hcx0
      go_wp2_with fail
      go_ret
      exact ⟨rfl, by (with_reducible (repeat (first | exact HB3.out | apply bel_alloc | apply bel_put | apply bel_set | apply Below.drew | apply below_drewN | omega)))⟩
  · have hcxb : (cx != 0) = true := by rw [bne_iff_ne]; exact hcx0
    go_wp2_with fail
    go_ret
    exact ⟨rfl, by (with_reducible (repeat (first | exact HB3.out | apply bel_alloc | apply bel_put | apply bel_set | apply Below.drew | apply below_drewN | omega)))⟩

end Go.Proofs.Ytjeloflfhofdlaa
