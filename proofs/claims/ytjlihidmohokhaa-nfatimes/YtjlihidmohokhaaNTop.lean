/-
  What the program's Right, Size, Has and Parse answer: whether a node may be, how large it is, whether it has a byte, and which node a text is; conditions: how many parts the node has, the text's length.
-/
import Derived.Test.YtjlihidmohokhaaNWithin
import Derived.Test.YtjlihidmohokhaaNSizeW
namespace Go.Proofs.Ytjlihidmohokhaa
open Go.RowKit Go.Proofs.Ytjlihidmohokhaa.Gl

set_option maxHeartbeats 2000000 in
theorem right_any (x : Nd) (v : Value) (w : World) (A : Nat → Prop) (hx : NodeAt w A v x) (hc : cntN x ≤ 1048576) :
    Calls Try.prog 24 #[v] w fun e w' => e = .returned (.bool (rightN x)) ∧ Below w.heap.size w w' := by
  have HX := hidden hx
  obtain ⟨z, y0, y1, y2, y3, sa, sn, sc, lo, hi, rfl⟩ := hx.shapeI
  have HZ0 := hidden (Blk.new w (.int .i64 z) (.int .u64 y0) (.int .u64 y1) (.int .u64 y2) (.int .u64 y3) (.slice sa sn sc) (.int .i64 lo) (.int .i64 hi))
  have HB0 := hidden (Below.refl w.heap.size w)
  clear hx
  go_enter Try.func24, Try.ntmps24
  go_wp2_with fail
  refine (sizeUpTo_any x _ _ A 20001 (by (with_reducible (repeat (first | exact HX.out | apply NodeAt.alloc | apply NodeAt.putN | apply NodeAt.other | apply NodeAt.putO | apply NodeAt.otherO | apply NodeAt.drewN | apply NodeAt.drew | omega)))) hc (by omega) (by omega)).mono ?_
  rintro e w1 ⟨rfl, hb1⟩
  have HB1 := hidden (show Below w.heap.size w w1 from (by (with_reducible (repeat (first | exact HB0.out | apply bel_alloc | apply bel_put | apply bel_set | apply Below.drew | apply below_drewN | omega))) : Below w.heap.size w _).trans (hb1.mono (by simp)))
  have HZ1 := hidden (Blk.later HZ0.out hb1)
  have HX1 := hidden (NodeAt.later (A := A) (v := .agg #[.int .i64 z, .int .u64 y0, .int .u64 y1, .int .u64 y2, .int .u64 y3, .slice sa sn sc, .int .i64 lo, .int .i64 hi]) (d := x) (by (with_reducible (repeat (first | exact HX.out | apply NodeAt.alloc | apply NodeAt.putN | apply NodeAt.other | apply NodeAt.putO | apply NodeAt.otherO | apply NodeAt.drewN | apply NodeAt.drew | omega)))) hb1)
  obtain ⟨z0, z1, z2, z3, z4, z5, z6, z7⟩ := HZ1.out.cells
  clear hb1
  by_cases hs : sizeN x ≤ 20000
  · have hsi : ((min 20001 (sizeN x) : Nat) : Int) ≤ 20000 := by omega
    generalize ((min 20001 (sizeN x) : Nat) : Int) = q at hsi ⊢
    have HR := hidden (show rightN x = withinN x 200 by unfold rightN; simp [hs])
    clear hs
    go_wp2_with fail
    refine (within_any (cntN x) x (Nat.le_refl _) hc 200 _ _ A (by omega) HX1.out).mono ?_
    rintro e w2 ⟨rfl, hb2⟩
    have HB2 := hidden (HB1.out.trans (hb2.mono HB1.out.size))
    clear hb2
    go_wp2
    go_ret
    exact ⟨by rw [HR.out]; rfl, HB2.out⟩
  · have hsi : ¬ ((min 20001 (sizeN x) : Nat) : Int) ≤ 20000 := by omega
    generalize ((min 20001 (sizeN x) : Nat) : Int) = q at hsi ⊢
    have HR := hidden (show rightN x = false by unfold rightN; simp [hs])
    clear hs
    go_wp2_with fail
    go_ret
    exact ⟨by rw [HR.out]; rfl, HB1.out⟩

end Go.Proofs.Ytjlihidmohokhaa
