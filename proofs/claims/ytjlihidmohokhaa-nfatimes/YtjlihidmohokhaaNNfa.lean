/-
  What the program's Matches and Finds answer; conditions: how many parts the node has, and the text's length.
-/
import Derived.Test.YtjlihidmohokhaaNLook
import Derived.Test.YtjlihidmohokhaaNMatch
import Derived.Test.YtjlihidmohokhaaNTop
namespace Go.Proofs.Ytjlihidmohokhaa
open Go.RowKit Go.Proofs.Ytjlihidmohokhaa.Gl

theorem wholeB_dec {s : Tx} {x : Nd} (hr : rightN x = true) : dec (fun _ => if true = true then wholeK s x else someK s x) 0 = wholeB s x :=
  dec_is (by rw [wholeB_is]; simp [hr])
theorem someB_dec {s : Tx} {x : Nd} (hr : rightN x = true) : dec (fun _ => if false = true then wholeK s x else someK s x) 0 = someB s x :=
  dec_is (by rw [someB_is]; simp [hr])

theorem look_whole (x : Nd) (v : Value) (s : Tx) (w : World) (A : Nat → Prop) (hx : NodeAt w A v x) (hc : cntN x ≤ 1048576) (hr : rightN x = true) (hs : s.length ≤ 90000) :
    Calls Try.prog 25 #[v, S s, .bool true] w fun e w' => e = .returned (.bool (wholeB s x)) ∧ Below w.heap.size w w' :=
  (look_any x v s true w A hx hc hr hs).mono fun e w' h => ⟨by rw [h.1, wholeB_dec hr], h.2⟩
theorem look_some (x : Nd) (v : Value) (s : Tx) (w : World) (A : Nat → Prop) (hx : NodeAt w A v x) (hc : cntN x ≤ 1048576) (hr : rightN x = true) (hs : s.length ≤ 90000) :
    Calls Try.prog 25 #[v, S s, .bool false] w fun e w' => e = .returned (.bool (someB s x)) ∧ Below w.heap.size w w' :=
  (look_any x v s false w A hx hc hr hs).mono fun e w' h => ⟨by rw [h.1, someB_dec hr], h.2⟩

set_option maxHeartbeats 4000000 in
theorem nMatches_any (x : Nd) (v : Value) (s : Tx) (w : World) (A : Nat → Prop) (hx : NodeAt w A v x) (hc : cntN x ≤ 1048576) (hs : s.length ≤ 90000) :
    Calls Try.prog 13 #[v, S s] w fun e w' => e = .returned (.bool (wholeB s x)) ∧ Below w.heap.size w w' := by
  have HX := hidden hx
  obtain ⟨z, y0, y1, y2, y3, sa, sn, sc, lo, hi, rfl⟩ := hx.shapeI
  have HZ0 := hidden (Blk.new w (.int .i64 z) (.int .u64 y0) (.int .u64 y1) (.int .u64 y2) (.int .u64 y3) (.slice sa sn sc) (.int .i64 lo) (.int .i64 hi))
  have HB0 := hidden (Below.refl w.heap.size w)
  clear hx
  unfold S
  go_enter Try.func13, Try.ntmps13
  go_wp2_with fail
  refine (right_any x _ _ A (by (with_reducible (repeat (first | exact HX.out | apply NodeAt.alloc | apply NodeAt.putN | apply NodeAt.other | apply NodeAt.putO | apply NodeAt.otherO | apply NodeAt.drewN | apply NodeAt.drew | omega)))) hc).mono ?_
  rintro e w1 ⟨rfl, hb1⟩
  have HB1 := hidden (show Below w.heap.size w w1 from (by (with_reducible (repeat (first | exact HB0.out | apply bel_alloc | apply bel_put | apply bel_set | apply Below.drew | apply below_drewN | omega))) : Below w.heap.size w _).trans (hb1.mono (by simp)))
  have HZ1 := hidden (Blk.later HZ0.out hb1)
  have HX1 := hidden (NodeAt.later (A := A) (v := .agg #[.int .i64 z, .int .u64 y0, .int .u64 y1, .int .u64 y2, .int .u64 y3, .slice sa sn sc, .int .i64 lo, .int .i64 hi]) (d := x) (by (with_reducible (repeat (first | exact HX.out | apply NodeAt.alloc | apply NodeAt.putN | apply NodeAt.other | apply NodeAt.putO | apply NodeAt.otherO | apply NodeAt.drewN | apply NodeAt.drew | omega)))) hb1)
  obtain ⟨z0, z1, z2, z3, z4, z5, z6, z7⟩ := HZ1.out.cells
  clear hb1
  cases hr : rightN x with
  | false =>
    have HF := hidden (show wholeB s x = false by unfold wholeB; rw [hr]; rfl)
    clear hr
    go_wp2_with fail
    go_ret
    exact ⟨by rw [HF.out]; rfl, HB1.out⟩
  | true =>
    have HR := hidden hr
    clear hr
    go_wp2_with fail
    refine (look_whole x _ s _ A HX1.out hc HR.out hs).mono ?_
    rintro e w2 ⟨rfl, hb2⟩
    have HB2 := hidden (HB1.out.trans (hb2.mono HB1.out.size))
    clear hb2
    go_wp2_with fail
    go_ret
    exact ⟨rfl, HB2.out⟩
set_option maxHeartbeats 4000000 in
theorem nFinds_any (x : Nd) (v : Value) (s : Tx) (w : World) (A : Nat → Prop) (hx : NodeAt w A v x) (hc : cntN x ≤ 1048576) (hs : s.length ≤ 90000) :
    Calls Try.prog 15 #[v, S s] w fun e w' => e = .returned (.bool (someB s x)) ∧ Below w.heap.size w w' := by
  have HX := hidden hx
  obtain ⟨z, y0, y1, y2, y3, sa, sn, sc, lo, hi, rfl⟩ := hx.shapeI
  have HZ0 := hidden (Blk.new w (.int .i64 z) (.int .u64 y0) (.int .u64 y1) (.int .u64 y2) (.int .u64 y3) (.slice sa sn sc) (.int .i64 lo) (.int .i64 hi))
  have HB0 := hidden (Below.refl w.heap.size w)
  clear hx
  unfold S
  go_enter Try.func15, Try.ntmps15
  go_wp2_with fail
  refine (right_any x _ _ A (by (with_reducible (repeat (first | exact HX.out | apply NodeAt.alloc | apply NodeAt.putN | apply NodeAt.other | apply NodeAt.putO | apply NodeAt.otherO | apply NodeAt.drewN | apply NodeAt.drew | omega)))) hc).mono ?_
  rintro e w1 ⟨rfl, hb1⟩
  have HB1 := hidden (show Below w.heap.size w w1 from (by (with_reducible (repeat (first | exact HB0.out | apply bel_alloc | apply bel_put | apply bel_set | apply Below.drew | apply below_drewN | omega))) : Below w.heap.size w _).trans (hb1.mono (by simp)))
  have HZ1 := hidden (Blk.later HZ0.out hb1)
  have HX1 := hidden (NodeAt.later (A := A) (v := .agg #[.int .i64 z, .int .u64 y0, .int .u64 y1, .int .u64 y2, .int .u64 y3, .slice sa sn sc, .int .i64 lo, .int .i64 hi]) (d := x) (by (with_reducible (repeat (first | exact HX.out | apply NodeAt.alloc | apply NodeAt.putN | apply NodeAt.other | apply NodeAt.putO | apply NodeAt.otherO | apply NodeAt.drewN | apply NodeAt.drew | omega)))) hb1)
  obtain ⟨z0, z1, z2, z3, z4, z5, z6, z7⟩ := HZ1.out.cells
  clear hb1
  cases hr : rightN x with
  | false =>
    have HF := hidden (show someB s x = false by unfold someB; rw [hr]; rfl)
    clear hr
    go_wp2_with fail
    go_ret
    exact ⟨by rw [HF.out]; rfl, HB1.out⟩
  | true =>
    have HR := hidden hr
    clear hr
    go_wp2_with fail
    refine (look_some x _ s _ A HX1.out hc HR.out hs).mono ?_
    rintro e w2 ⟨rfl, hb2⟩
    have HB2 := hidden (HB1.out.trans (hb2.mono HB1.out.size))
    clear hb2
    go_wp2_with fail
    go_ret
    exact ⟨rfl, HB2.out⟩

end Go.Proofs.Ytjlihidmohokhaa
