/-
  The law EreRight, called with any text, returns true, and nothing of what was in memory has turned; condition: the text's length as the form has it.
-/
import Derived.Test.YtjeloflfhofdlaaEAlive
namespace Go.Proofs.Ytjeloflfhofdlaa
open Go.RowKit Go.Proofs.Ytjeloflfhofdlaa.Gl

theorem top_right {p : Tx} {x : Nd} {m : Nat} (h : topE p = .ok x m) : rightN x = true ∧ sizeN x ≤ 20000 := by
  unfold topE at h
  split at h
  · cases h
  · cases he : exprE (grpE 30) p with
    | er a c => rw [he] at h; cases h
    | ok d a =>
      rw [he] at h
      simp only [] at h
      split at h
      · cases h
      · split at h
        · rename_i hr
          cases h
          refine ⟨hr, ?_⟩
          unfold rightN at hr
          simp at hr
          exact hr.1
        · cases h
theorem top_place {p : Tx} {m c : Nat} (h : topE p = .er m c) : m ≤ p.length := by
  unfold topE at h
  split at h
  · cases h; omega
  · have hl := exprE_le (grpE_tame 30) p
    cases he : exprE (grpE 30) p with
    | er a b => rw [he] at h hl; cases h; exact hl
    | ok d a =>
      rw [he] at h hl
      simp only [] at h
      simp only [Rs.len] at hl
      split at h
      · cases h; exact hl
      · split at h
        · cases h
        · cases h; omega

set_option maxRecDepth 3000 in
set_option maxHeartbeats 8000000 in
theorem ereRight_any (p : Tx) (w : World) (hp : p.length ≤ 281474976710656) : Calls Try.prog 3 #[S p] w fun e w' => e = .returned (.bool true) ∧ Below w.heap.size w w' := by
  unfold S
  by_cases hl : 200 < p.length
  · have hli : (200 : Int) < p.length := by omega
    go_enter Try.func3, Try.ntmps3
    go_wp2_with fail
    refine (alive_any _).mono ?_
    rintro e w1 ⟨rfl, hb1⟩
    have HB1 := hidden hb1
    clear hb1
    go_wp2_with fail
    go_ret
    exact ⟨rfl, HB1.out⟩
  · have hli : ¬ (200 : Int) < p.length := by omega
    go_enter Try.func3, Try.ntmps3
    go_wp2_with fail
    refine (alive_any _).mono ?_
    rintro e w1 ⟨rfl, hb1⟩
    have HB1 := hidden hb1
    clear hb1
    go_wp2_with fail
    refine (parse_any p _ (by omega)).mono ?_
    rintro e w2 ⟨hb2, ha2⟩
    have HB2 := hidden (HB1.out.trans (hb2.mono HB1.out.size))
    clear hb2
    cases ht : topE p with
    | er m c =>
      rw [ht] at ha2
      obtain ⟨rfl, hc⟩ := ha2
      have hm := top_place ht
      have hmi : (0 : Int) ≤ m := by omega
      have hmj : (m : Int) ≤ p.length := by omega
      have hcc : ((c : Int) == 0) = false := by rw [beq_eq_false_iff_ne]; omega
      rw [zeroV_is]
      clear ht hc hm
      go_wp2_with (go_at_call 10; refine (num_any _ _).mono ?_; rintro e w' ⟨rfl, rfl⟩)
      go_ret
      exact ⟨rfl, by (with_reducible (repeat (first | exact HB2.out | apply bel_alloc | apply bel_put | apply bel_set | apply Below.drew | apply below_drewN | omega)))⟩
    | ok x m =>
      rw [ht] at ha2
      obtain ⟨v, rfl, hn, hcnt⟩ := ha2
      obtain ⟨z, y0, y1, y2, y3, sa, sn, sc, lo, hi, rfl⟩ := hn.shapeI
      have HN := hidden hn
      have HR := hidden (top_right ht)
      have HC := hidden (Blk.new w2 (.int .i64 z) (.int .u64 y0) (.int .u64 y1) (.int .u64 y2) (.int .u64 y3) (.slice sa sn sc) (.int .i64 lo) (.int .i64 hi))
      clear ht hn
      go_wp2_with (go_at_call 10; refine (num_any _ _).mono ?_; rintro e w' ⟨rfl, rfl⟩)
      refine (right_any x _ _ _ (by (with_reducible (repeat (first | exact HN.out | apply NodeAt.alloc | apply NodeAt.putN | apply NodeAt.other | apply NodeAt.putO | apply NodeAt.otherO | apply NodeAt.drewN | apply NodeAt.drew | omega)))) (by omega)).mono ?_
      rintro e w4 ⟨rfl, hb4⟩
      rw [HR.out.1]
      have HB4 := hidden (show Below w.heap.size w w4 from (by (with_reducible (repeat (first | exact HB2.out | apply bel_alloc | apply bel_put | apply bel_set | apply Below.drew | apply below_drewN | omega))) : Below w.heap.size w _).trans (hb4.mono (by have := HB2.out.size; simp; omega)))
      have HC4 := hidden (Blk.later HC.out hb4)
      have HN4 := hidden (NodeAt.later (v := .agg #[.int .i64 z, .int .u64 y0, .int .u64 y1, .int .u64 y2, .int .u64 y3, .slice sa sn sc, .int .i64 lo, .int .i64 hi]) (d := x) (by (with_reducible (repeat (first | exact HN.out | apply NodeAt.alloc | apply NodeAt.putN | apply NodeAt.other | apply NodeAt.putO | apply NodeAt.otherO | apply NodeAt.drewN | apply NodeAt.drew | omega)))) hb4)
      obtain ⟨x0, x1, x2, x3, x4, x5, x6, x7⟩ := HC4.out.cells
      clear hb4
      go_wp2_with fail
      refine (size_any x _ _ _ HN4.out (by omega)).mono ?_
      rintro e w5 ⟨rfl, hb5⟩
      have HB5 := hidden (HB4.out.trans (hb5.mono HB4.out.size))
      have hq : ((min 1073741824 (sizeN x) : Nat) : Int) ≤ 20000 := by have := HR.out.2; omega
      generalize ((min 1073741824 (sizeN x) : Nat) : Int) = q at hq ⊢
      clear hb5
      go_wp2
      go_ret
      exact ⟨by simp, HB5.out⟩

end Go.Proofs.Ytjeloflfhofdlaa
