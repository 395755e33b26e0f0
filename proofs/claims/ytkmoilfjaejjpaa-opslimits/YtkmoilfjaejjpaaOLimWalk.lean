/-
  The law OpsLimits answers true at whatever two numbers, and leaves what lay in memory as it was.
-/
import Derived.Test.YtkmoilfjaejjpaaOLaw
import Derived.Test.YtkmoilfjaejjpaaOFacts
namespace Go.Proofs.Ytkmoilfjaejjpaa
open Go.RowKit Go.Proofs.Ytkmoilfjaejjpaa.Ln Go.Proofs.Ytkmoilfjaejjpaa.Ol

set_option maxRecDepth 3000 in
set_option maxHeartbeats 4000000 in
theorem opsLimits_any (a b : Int) (w : World) :
    Calls Try.prog 6 #[.int .i64 a, .int .i64 b] w fun e w' => e = .returned (.bool true) ∧ Below w.heap.size w w' := by
  have HB0 := hidden (Below.refl w.heap.size w)
  have HF1 := hidden (fit_of (xs := [(1, a, [])]) rfl)
  have HF2 := hidden (fit_of (xs := [(1, a, []), (1, b, [])]) rfl)
  have HR1 := hidden (right_one a)
  go_enter Try.func6, Try.ntmps6
  go_wp2_with fail
  refine (alive_any _).mono ?_
  rintro e w1 ⟨rfl, hb⟩
  have HB1 := hidden (HB0.out.trans (hb.mono HB0.out.size))
  clear hb
  go_wp2_with fail
  have H1 := hidden (show OpsAt (w1.alloc (opO 1 a [])) (.slice (some ⟨w1.heap.size, 0, none⟩) 1 1) [(1, a, [])] from ops_oneAt _ _ _ _ _ rfl)
  have HB2 := hidden (bel_alloc HB1.out (opO 1 a []))
  generalize World.alloc w1 _ = w2 at H1 HB2 ⊢
  refine (oright_any _ [(1, a, [])] w2 H1.out (by simp) HF1.out).mono ?_
  rw [HR1.out]
  rintro e w3 ⟨rfl, hb⟩
  have HB3 := hidden (HB2.out.trans (hb.mono HB2.out.size))
  clear hb HB2 H1
  by_cases a1 : 1 ≤ a
  · have a1b : decide (1 ≤ a) = true := by simpa using a1
    have a1c : decide (a < 1) = false := by simp; omega
    have a1d : ¬ a < 1 := by omega
    by_cases a2 : a ≤ 2147483648
    · have a2b : decide (a ≤ 2147483648) = true := by simpa using a2
      have a2c : decide (a > 2147483648) = false := by simp; omega
      have a2d : ¬ a > 2147483648 := by omega
      by_cases b1 : 1 ≤ b
      · have b1c : decide (b < 1) = false := by simp; omega
        have b1d : ¬ b < 1 := by omega
        by_cases b2 : b ≤ 2147483648
        · have b2c : decide (b > 2147483648) = false := by simp; omega
          have b2d : ¬ b > 2147483648 := by omega
          have HR2 := hidden (right_two a1 a2 b1 b2)
          have HC3 := hidden (cnt_two 3 a1 a2 b1 b2)
          have HC4 := hidden (cnt_two 4 a1 a2 b1 b2)
          have hwr : wrap64 (a + b) = a + b := by unfold wrap64; omega
          go_wp2_with fail
          have H2 := hidden (show OpsAt (w3.alloc (.cells #[.int .i64 1, .int .i64 a, .string ⟨#[]⟩, .int .i64 1, .int .i64 b, .string ⟨#[]⟩] 33)) (.slice (some ⟨w3.heap.size, 0, none⟩) 2 2) [(1, a, []), (1, b, [])] from ops_lit (World.alloc_heap_new w3 _) rfl rfl)
          have HB4 := hidden (bel_alloc HB3.out (.cells #[.int .i64 1, .int .i64 a, .string ⟨#[]⟩, .int .i64 1, .int .i64 b, .string ⟨#[]⟩] 33))
          generalize World.alloc w3 _ = w4 at H2 HB4 ⊢
          refine (oright_any _ _ w4 H2.out (by simp) HF2.out).mono ?_
          rw [HR2.out]
          rintro e w5 ⟨rfl, hb⟩
          have H3 := hidden (H2.out.later hb)
          have HB5 := hidden (HB4.out.trans (hb.mono HB4.out.size))
          clear hb
          go_wp2_with fail
          refine (oolds_any _ _ w5 H3.out (by simp)).mono ?_
          rw [HC3.out]
          rintro e w6 ⟨rfl, hb⟩
          have H4 := hidden (H3.out.later hb)
          have HB6 := hidden (HB5.out.trans (hb.mono HB5.out.size))
          clear hb
          go_wp2_with fail
          refine (onews_any _ _ w6 H4.out (by simp)).mono ?_
          rw [HC4.out]
          rintro e w7 ⟨rfl, hb⟩
          have HB7 := hidden (HB6.out.trans (hb.mono HB6.out.size))
          clear hb
          go_wp2_with fail
          go_ret
          exact ⟨by first | rfl | simp, HB7.out⟩
        · have b2c : decide (b > 2147483648) = true := by simp; omega
          have b2d : b > 2147483648 := by omega
          go_wp2_with fail
          go_ret
          exact ⟨rfl, HB3.out⟩
      · have b1c : decide (b < 1) = true := by simp; omega
        have b1d : b < 1 := by omega
        go_wp2_with fail
        go_ret
        exact ⟨rfl, HB3.out⟩
    · have a2b : decide (a ≤ 2147483648) = false := by simpa using a2
      have a2c : decide (a > 2147483648) = true := by simp; omega
      have a2d : a > 2147483648 := by omega
      go_wp2_with fail
      go_ret
      exact ⟨rfl, HB3.out⟩
  · have a1b : decide (1 ≤ a) = false := by simpa using a1
    have a1c : decide (a < 1) = true := by simp; omega
    have a1d : a < 1 := by omega
    have a1e : decide (a ≥ 1) = false := by simpa using a1
    go_wp2_with fail
    go_ret
    exact ⟨rfl, HB3.out⟩

end Go.Proofs.Ytkmoilfjaejjpaa
