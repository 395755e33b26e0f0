/-
  That the document's example is as it says; no conditions.
-/
import Derived.Test.YtjlihidmohokhaaNNfa
import Derived.Test.YtjlihidmohokhaaNRun
import Derived.Test.YtjlihidmohokhaaQEre
namespace Go.Proofs.Ytjlihidmohokhaa
open Go.RowKit Go.Proofs.Ytjlihidmohokhaa.Gl

theorem topE_right {p : Tx} {x : Nd} {m : Nat} (h : topE p = .ok x m) : rightN x = true := by
  unfold topE at h
  split at h
  · cases h
  · split at h
    · cases h
    · split at h
      · cases h
      · split at h
        · rename_i hr; cases h; exact hr
        · cases h
theorem someB_run {s : Tx} {x : Nd} (hr : rightN x = true) : someB s x = !(Gl.runN s x (List.range (s.length + 1))).isEmpty := by
  rw [Bool.eq_iff_iff, someB_is, someK_run]
  cases Gl.runN s x (List.range (s.length + 1)) <;> simp [hr]
theorem wholeB_run {s : Tx} {x : Nd} (hr : rightN x = true) : wholeB s x = (Gl.runN s x [0]).contains s.length := by
  rw [Bool.eq_iff_iff, wholeB_is, wholeK_run]
  simp [hr]
/-- the example, reckoned -/
def aliveX : Rs Nd → Bool
  | .ok x _ => !(Gl.runN [120, 97, 97, 98] x (List.range 5)).isEmpty && !(Gl.runN [120, 97, 97, 98] x [0]).contains 4 && (Gl.runN [97, 97, 98] x [0]).contains 3
  | .er _ _ => false
theorem aliveX_is : aliveX (topE [97, 43, 98]) = true := by decide +kernel
theorem alive_parts : ∃ x m, topE [97, 43, 98] = .ok x m ∧ someB [120, 97, 97, 98] x = true ∧ wholeB [120, 97, 97, 98] x = false ∧ wholeB [97, 97, 98] x = true := by
  have h := aliveX_is
  cases hx : topE [97, 43, 98] with
  | er m c => rw [hx] at h; cases h
  | ok x m =>
    rw [hx] at h
    have hr := topE_right hx
    unfold aliveX at h
    simp only [Bool.and_eq_true] at h
    refine ⟨x, m, rfl, ?_, ?_, ?_⟩
    · rw [someB_run hr]; exact h.1.1
    · rw [wholeB_run hr]; simpa using h.1.2
    · rw [wholeB_run hr]; exact h.2
def emptyN : Nd := .mk 1 none_ [] 0 0
theorem emptyN_at (w : World) (A : Nat → Prop) : NodeAt w A (.agg #[.int .i64 1, .int .u64 0, .int .u64 0, .int .u64 0, .int .u64 0, .slice none 0 0, .int .i64 0, .int .i64 0]) emptyN := by
  have h := (KidsAt.nil w A).shut 1 none_ 0 0
  unfold nodeV at h
  rw [show word none_ 0 = 0 from word_none 0, show word none_ 1 = 0 from word_none 1, show word none_ 2 = 0 from word_none 2, show word none_ 3 = 0 from word_none 3] at h
  exact h
theorem empty_found : someB [] emptyN = true := by
  rw [someB_run (by decide +kernel)]
  decide +kernel

set_option maxHeartbeats 4000000 in
theorem alive_any (w : World) : Calls Try.prog 9 #[] w fun e w' => e = .returned (.bool true) ∧ Below w.heap.size w w' := by
  obtain ⟨x, m, hx, h1, h2, h3⟩ := alive_parts
  have HEA := hidden (ere_any [97, 43, 98])
  have HX := hidden hx
  have HB0 := hidden (Below.refl w.heap.size w)
  have HF := hidden (And.intro h1 (And.intro h2 h3))
  clear hx h1 h2 h3
  go_enter Try.func9, Try.ntmps9
  go_wp2_with fail
  refine (HEA.out _).mono ?_
  rintro e w2 ⟨hb2, ha2⟩
  rw [HX.out] at ha2
  obtain ⟨vx, rfl, hnx, hcx⟩ := ha2
  obtain ⟨z, y0, y1, y2, y3, sa, sn, sc, lo, hi, rfl⟩ := hnx.shapeI
  have HB2 := hidden hb2
  have HN2 := hidden hnx
  have hc2 : cntN x ≤ 1048576 := by omega
  have HZ2 := hidden (Blk.new w2 (.int .i64 z) (.int .u64 y0) (.int .u64 y1) (.int .u64 y2) (.int .u64 y3) (.slice sa sn sc) (.int .i64 lo) (.int .i64 hi))
  clear hb2 hnx hcx
  go_wp2_with fail
  refine (nFinds_any emptyN _ [] _ (fun _ => True) (emptyN_at _ _) (by decide +kernel) (by decide)).mono ?_
  rintro e w3 ⟨rfl, hb3⟩
  rw [empty_found]
  have HB3 := hidden (show Below w.heap.size w w3 from (by (with_reducible (repeat (first | exact HB2.out | apply bel_alloc | apply bel_put | apply bel_set | apply Below.drew | apply below_drewN | omega))) : Below w.heap.size w _).trans (hb3.mono (by have := HB2.out.size; simp; omega)))
  have HN3 := hidden (NodeAt.later (A := (w.heap.size ≤ ·)) (v := .agg #[.int .i64 z, .int .u64 y0, .int .u64 y1, .int .u64 y2, .int .u64 y3, .slice sa sn sc, .int .i64 lo, .int .i64 hi]) (d := x) (by (with_reducible (repeat (first | exact HN2.out | apply NodeAt.alloc | apply NodeAt.putN | apply NodeAt.other | apply NodeAt.putO | apply NodeAt.otherO | apply NodeAt.drewN | apply NodeAt.drew | omega)))) hb3)
  have HZ3 := hidden (Blk.later HZ2.out hb3)
  obtain ⟨z0, z1, z2, z3, z4, z5, z6, z7⟩ := HZ3.out.cells
  clear hb3
  go_wp2_with fail
  refine (nFinds_any x _ [120, 97, 97, 98] _ _ HN3.out hc2 (by decide)).mono ?_
  rintro e w4 ⟨rfl, hb4⟩
  rw [HF.out.1]
  have HB4 := hidden (HB3.out.trans (hb4.mono HB3.out.size))
  have HN4 := hidden (HN3.out.later hb4)
  have HZ4 := hidden (Blk.later HZ3.out hb4)
  clear z0 z1 z2 z3 z4 z5 z6 z7
  obtain ⟨z0, z1, z2, z3, z4, z5, z6, z7⟩ := HZ4.out.cells
  clear hb4
  go_wp2_with fail
  refine (nMatches_any x _ [120, 97, 97, 98] _ _ HN4.out hc2 (by decide)).mono ?_
  rintro e w5 ⟨rfl, hb5⟩
  rw [HF.out.2.1]
  have HB5 := hidden (HB4.out.trans (hb5.mono HB4.out.size))
  have HN5 := hidden (HN4.out.later hb5)
  have HZ5 := hidden (Blk.later HZ4.out hb5)
  clear z0 z1 z2 z3 z4 z5 z6 z7
  obtain ⟨z0, z1, z2, z3, z4, z5, z6, z7⟩ := HZ5.out.cells
  clear hb5
  go_wp2_with fail
  refine (nMatches_any x _ [97, 97, 98] _ _ HN5.out hc2 (by decide)).mono ?_
  rintro e w6 ⟨rfl, hb6⟩
  rw [HF.out.2.2]
  have HB6 := hidden (HB5.out.trans (hb6.mono HB5.out.size))
  clear hb6
  go_wp2_with fail
  go_ret
  exact ⟨rfl, HB6.out⟩

end Go.Proofs.Ytjlihidmohokhaa
