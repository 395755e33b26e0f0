/-
  The law OpsOpen answers true at whatever three numbers and text, and leaves what lay in memory as it was.
-/
import Derived.Test.YtkmoilfjaejjpaaOLaw
import Derived.Test.YtkmoilfjaejjpaaOFacts
namespace Go.Proofs.Ytkmoilfjaejjpaa
open Go.RowKit Go.Proofs.Ytkmoilfjaejjpaa.Ln Go.Proofs.Ytkmoilfjaejjpaa.Ol

/-- the last byte of a text -/
theorem last_byte (x : Tx) (m : Nat) (hm : x.length = m + 1) : ∃ q : Nat, q < 256 ∧ (∀ h, ((⟨x.toArray⟩ : ByteArray)[m]'h).toNat = q) ∧ cl x = decide (q = 10) := by
  have hs : (⟨x.toArray⟩ : ByteArray).size = m + 1 := hm
  refine ⟨((⟨x.toArray⟩ : ByteArray)[m]'(by omega)).toNat, UInt8.toNat_lt _, fun h => rfl, ?_⟩
  have h1 := cl_last ⟨x.toArray⟩ (by omega)
  rw [Bool.eq_iff_iff] at h1 ⊢
  simp only [beq_iff_eq, decide_eq_true_eq] at h1 ⊢
  rw [h1]
  simp only [hs, Nat.add_sub_cancel]
  omega

set_option maxRecDepth 4000 in
set_option maxHeartbeats 16000000 in
theorem opsOpen_any (kd nx : Int) (x : Tx) (n : Int) (w : World) (hz : x.length ≤ 281474976710656) :
    Calls Try.prog 5 #[.int .i64 kd, .int .i64 nx, S x, .int .i64 n] w fun e w' => e = .returned (.bool true) ∧ Below w.heap.size w w' := by
  have HB0 := hidden (Below.refl w.heap.size w)
  unfold S
  go_enter Try.func5, Try.ntmps5
  go_wp2_with fail
  refine (alive_any _).mono ?_
  rintro e w1 ⟨rfl, hb⟩
  have HB1 := hidden (HB0.out.trans (hb.mono HB0.out.size))
  clear hb HB0
  by_cases g1 : kd < 2
  · have g1t : decide (kd < 2) = true := by simpa using g1
    go_wp2_with fail
    go_ret
    exact ⟨by first | rfl | simp, HB1.out⟩
  have g1f : decide (kd < 2) = false := by simpa using g1
  by_cases g2 : kd > 4
  · have g2t : decide (kd > 4) = true := by simpa using g2
    go_wp2_with fail
    go_ret
    exact ⟨by first | rfl | simp, HB1.out⟩
  have g2f : decide (kd > 4) = false := by simpa using g2
  by_cases g3 : nx < 1
  · have g3t : decide (nx < 1) = true := by simpa using g3
    go_wp2_with fail
    go_ret
    exact ⟨by first | rfl | simp, HB1.out⟩
  have g3f : decide (nx < 1) = false := by simpa using g3
  by_cases g4 : nx > 4
  · have g4t : decide (nx > 4) = true := by simpa using g4
    go_wp2_with fail
    go_ret
    exact ⟨by first | rfl | simp, HB1.out⟩
  have g4f : decide (nx > 4) = false := by simpa using g4
  by_cases g5 : (x.length : Int) > 50
  · have g5t : decide ((x.length : Int) > 50) = true := by simpa using g5
    go_wp2_with fail
    go_ret
    exact ⟨by first | rfl | simp, HB1.out⟩
  have g5f : decide ((x.length : Int) > 50) = false := by simpa using g5
  cases hrt : rt x with
  | false =>
    have HRT := hidden hrt
    clear hrt
    go_wp2_with (go_at_call 25; refine (rightLineX x _ (by omega)).mono ?_; rw [HRT.out]; rintro e w' ⟨rfl, rfl⟩)
    go_ret
    exact ⟨by first | rfl | simp, HB1.out⟩
  | true =>
    have HRT := hidden hrt
    have hne : x ≠ [] := ((rt_iff x).1 hrt).1
    clear hrt
    obtain ⟨m, hm⟩ : ∃ m, x.length = m + 1 := ⟨x.length - 1, by have := List.length_pos_iff.2 hne; omega⟩
    obtain ⟨q, hq1, hq, hcl⟩ := last_byte x m hm
    clear hne
    by_cases g6 : n < 1
    · have g6t : decide (n < 1) = true := by simpa using g6
      go_wp2_with (go_at_call 25; refine (rightLineX x _ (by omega)).mono ?_; rw [HRT.out]; rintro e w' ⟨rfl, rfl⟩)
      go_ret
      exact ⟨by first | rfl | simp, HB1.out⟩
    have g6f : decide (n < 1) = false := by simpa using g6
    by_cases g7 : n > 1000
    · have g7t : decide (n > 1000) = true := by simpa using g7
      go_wp2_with (go_at_call 25; refine (rightLineX x _ (by omega)).mono ?_; rw [HRT.out]; rintro e w' ⟨rfl, rfl⟩)
      go_ret
      exact ⟨by first | rfl | simp, HB1.out⟩
    have g7f : decide (n > 1000) = false := by simpa using g7
    have hk : kd = 2 ∨ kd = 3 ∨ kd = 4 := by omega
    have hn : nx = 1 ∨ nx = 2 ∨ nx = 3 ∨ nx = 4 := by omega
    have HTWO := hidden (open_two kd nx n x hk hn HRT.out (by omega) (by omega))
    have hmw : IntKind.i64.wrap ((m : Int) + 1 - 1) = m := by rw [IntKind.wrap_i64]; omega
    have hmw2 : wrap64 ((m : Int) + 1 - 1) = m := by unfold wrap64; omega
    have hm3 : (m : Int) < (m : Int) + 1 := by omega
    have hm4 : (0 : Int) ≤ m := by omega
    have hm5 : m < x.length := by omega
    rcases hk with rfl | rfl | rfl
    · rcases hn with rfl | rfl | rfl | rfl
      · by_cases hq10 : q = 10
        · have HV := hidden (show right [(2, 0, x), (1, n, [])] = true by have h9 := HTWO.out; simp [hcl, hq10] at h9; simpa using h9)
          subst hq10
          clear HTWO
          have HL := hidden (show OpsAt (w1.alloc (.cells #[.int .i64 2, .int .i64 0, .string ⟨x.toArray⟩, .int .i64 1, .int .i64 n, .string ⟨#[]⟩] 33)) (.slice (some ⟨w1.heap.size, 0, none⟩) 2 2) [(2, 0, x), (1, n, [])] from ops_lit (World.alloc_heap_new w1 _) rfl rfl)
          have HF := hidden (show Fit [(2, 0, x), (1, n, [])] from fun y hy => by simp at hy; rcases hy with rfl | rfl; (· show x.length ≤ _; omega); simp)
          go_wp2_with (first | (go_at_call 25; refine (rightLineX x _ (by omega)).mono ?_; rw [HRT.out]; rintro e w' ⟨rfl, rfl⟩) | (go_at_call 11; refine (oright_any _ _ _ HL.out (by simp) HF.out).mono ?_; rw [HV.out]; rintro e w9 ⟨rfl, hb9⟩))
          go_ret
          exact ⟨by first | rfl | simp, (bel_alloc HB1.out _).trans (hb9.mono (bel_alloc HB1.out _).size)⟩
        · have HV := hidden (show right [(2, 0, x), (1, n, [])] = false by have h9 := HTWO.out; simp [hcl, hq10] at h9; simpa using h9)
          have hq11 : ¬ (q : Int) = 10 := by omega
          have hq12 : ((q : Int) == 10) = false := by simpa using hq11
          have hq13 : ((q : Int) != 10) = true := by simpa using hq11
          clear HTWO
          have HL := hidden (show OpsAt (w1.alloc (.cells #[.int .i64 2, .int .i64 0, .string ⟨x.toArray⟩, .int .i64 1, .int .i64 n, .string ⟨#[]⟩] 33)) (.slice (some ⟨w1.heap.size, 0, none⟩) 2 2) [(2, 0, x), (1, n, [])] from ops_lit (World.alloc_heap_new w1 _) rfl rfl)
          have HF := hidden (show Fit [(2, 0, x), (1, n, [])] from fun y hy => by simp at hy; rcases hy with rfl | rfl; (· show x.length ≤ _; omega); simp)
          go_wp2_with (first | (go_at_call 25; refine (rightLineX x _ (by omega)).mono ?_; rw [HRT.out]; rintro e w' ⟨rfl, rfl⟩) | (go_at_call 11; refine (oright_any _ _ _ HL.out (by simp) HF.out).mono ?_; rw [HV.out]; rintro e w9 ⟨rfl, hb9⟩))
          go_ret
          exact ⟨by first | rfl | simp, (bel_alloc HB1.out _).trans (hb9.mono (bel_alloc HB1.out _).size)⟩
      · by_cases hq10 : q = 10
        · have HV := hidden (show right [(2, 0, x), (2, 0, [122, 10])] = true by have h9 := HTWO.out; simp [hcl, hq10] at h9; simpa using h9)
          subst hq10
          clear HTWO
          have HL := hidden (show OpsAt (w1.alloc (.cells #[.int .i64 2, .int .i64 0, .string ⟨x.toArray⟩, .int .i64 2, .int .i64 0, .string ⟨#[122, 10]⟩] 33)) (.slice (some ⟨w1.heap.size, 0, none⟩) 2 2) [(2, 0, x), (2, 0, [122, 10])] from ops_lit (World.alloc_heap_new w1 _) rfl rfl)
          have HF := hidden (show Fit [(2, 0, x), (2, 0, [122, 10])] from fun y hy => by simp at hy; rcases hy with rfl | rfl; (· show x.length ≤ _; omega); simp)
          go_wp2_with (first | (go_at_call 25; refine (rightLineX x _ (by omega)).mono ?_; rw [HRT.out]; rintro e w' ⟨rfl, rfl⟩) | (go_at_call 11; refine (oright_any _ _ _ HL.out (by simp) HF.out).mono ?_; rw [HV.out]; rintro e w9 ⟨rfl, hb9⟩))
          go_ret
          exact ⟨by first | rfl | simp, (bel_alloc HB1.out _).trans (hb9.mono (bel_alloc HB1.out _).size)⟩
        · have HV := hidden (show right [(2, 0, x), (2, 0, [122, 10])] = false by have h9 := HTWO.out; simp [hcl, hq10] at h9; simpa using h9)
          have hq11 : ¬ (q : Int) = 10 := by omega
          have hq12 : ((q : Int) == 10) = false := by simpa using hq11
          have hq13 : ((q : Int) != 10) = true := by simpa using hq11
          clear HTWO
          have HL := hidden (show OpsAt (w1.alloc (.cells #[.int .i64 2, .int .i64 0, .string ⟨x.toArray⟩, .int .i64 2, .int .i64 0, .string ⟨#[122, 10]⟩] 33)) (.slice (some ⟨w1.heap.size, 0, none⟩) 2 2) [(2, 0, x), (2, 0, [122, 10])] from ops_lit (World.alloc_heap_new w1 _) rfl rfl)
          have HF := hidden (show Fit [(2, 0, x), (2, 0, [122, 10])] from fun y hy => by simp at hy; rcases hy with rfl | rfl; (· show x.length ≤ _; omega); simp)
          go_wp2_with (first | (go_at_call 25; refine (rightLineX x _ (by omega)).mono ?_; rw [HRT.out]; rintro e w' ⟨rfl, rfl⟩) | (go_at_call 11; refine (oright_any _ _ _ HL.out (by simp) HF.out).mono ?_; rw [HV.out]; rintro e w9 ⟨rfl, hb9⟩))
          go_ret
          exact ⟨by first | rfl | simp, (bel_alloc HB1.out _).trans (hb9.mono (bel_alloc HB1.out _).size)⟩
      · by_cases hq10 : q = 10
        · have HV := hidden (show right [(2, 0, x), (3, 0, [122, 10])] = true by have h9 := HTWO.out; simp [hcl, hq10] at h9; simpa using h9)
          subst hq10
          clear HTWO
          have HL := hidden (show OpsAt (w1.alloc (.cells #[.int .i64 2, .int .i64 0, .string ⟨x.toArray⟩, .int .i64 3, .int .i64 0, .string ⟨#[122, 10]⟩] 33)) (.slice (some ⟨w1.heap.size, 0, none⟩) 2 2) [(2, 0, x), (3, 0, [122, 10])] from ops_lit (World.alloc_heap_new w1 _) rfl rfl)
          have HF := hidden (show Fit [(2, 0, x), (3, 0, [122, 10])] from fun y hy => by simp at hy; rcases hy with rfl | rfl; (· show x.length ≤ _; omega); simp)
          go_wp2_with (first | (go_at_call 25; refine (rightLineX x _ (by omega)).mono ?_; rw [HRT.out]; rintro e w' ⟨rfl, rfl⟩) | (go_at_call 11; refine (oright_any _ _ _ HL.out (by simp) HF.out).mono ?_; rw [HV.out]; rintro e w9 ⟨rfl, hb9⟩))
          go_ret
          exact ⟨by first | rfl | simp, (bel_alloc HB1.out _).trans (hb9.mono (bel_alloc HB1.out _).size)⟩
        · have HV := hidden (show right [(2, 0, x), (3, 0, [122, 10])] = false by have h9 := HTWO.out; simp [hcl, hq10] at h9; simpa using h9)
          have hq11 : ¬ (q : Int) = 10 := by omega
          have hq12 : ((q : Int) == 10) = false := by simpa using hq11
          have hq13 : ((q : Int) != 10) = true := by simpa using hq11
          clear HTWO
          have HL := hidden (show OpsAt (w1.alloc (.cells #[.int .i64 2, .int .i64 0, .string ⟨x.toArray⟩, .int .i64 3, .int .i64 0, .string ⟨#[122, 10]⟩] 33)) (.slice (some ⟨w1.heap.size, 0, none⟩) 2 2) [(2, 0, x), (3, 0, [122, 10])] from ops_lit (World.alloc_heap_new w1 _) rfl rfl)
          have HF := hidden (show Fit [(2, 0, x), (3, 0, [122, 10])] from fun y hy => by simp at hy; rcases hy with rfl | rfl; (· show x.length ≤ _; omega); simp)
          go_wp2_with (first | (go_at_call 25; refine (rightLineX x _ (by omega)).mono ?_; rw [HRT.out]; rintro e w' ⟨rfl, rfl⟩) | (go_at_call 11; refine (oright_any _ _ _ HL.out (by simp) HF.out).mono ?_; rw [HV.out]; rintro e w9 ⟨rfl, hb9⟩))
          go_ret
          exact ⟨by first | rfl | simp, (bel_alloc HB1.out _).trans (hb9.mono (bel_alloc HB1.out _).size)⟩
      · by_cases hq10 : q = 10
        · have HV := hidden (show right [(2, 0, x), (4, 0, [122, 10])] = true by have h9 := HTWO.out; simp [hcl, hq10] at h9; simpa using h9)
          subst hq10
          clear HTWO
          have HL := hidden (show OpsAt (w1.alloc (.cells #[.int .i64 2, .int .i64 0, .string ⟨x.toArray⟩, .int .i64 4, .int .i64 0, .string ⟨#[122, 10]⟩] 33)) (.slice (some ⟨w1.heap.size, 0, none⟩) 2 2) [(2, 0, x), (4, 0, [122, 10])] from ops_lit (World.alloc_heap_new w1 _) rfl rfl)
          have HF := hidden (show Fit [(2, 0, x), (4, 0, [122, 10])] from fun y hy => by simp at hy; rcases hy with rfl | rfl; (· show x.length ≤ _; omega); simp)
          go_wp2_with (first | (go_at_call 25; refine (rightLineX x _ (by omega)).mono ?_; rw [HRT.out]; rintro e w' ⟨rfl, rfl⟩) | (go_at_call 11; refine (oright_any _ _ _ HL.out (by simp) HF.out).mono ?_; rw [HV.out]; rintro e w9 ⟨rfl, hb9⟩))
          go_ret
          exact ⟨by first | rfl | simp, (bel_alloc HB1.out _).trans (hb9.mono (bel_alloc HB1.out _).size)⟩
        · have HV := hidden (show right [(2, 0, x), (4, 0, [122, 10])] = false by have h9 := HTWO.out; simp [hcl, hq10] at h9; simpa using h9)
          have hq11 : ¬ (q : Int) = 10 := by omega
          have hq12 : ((q : Int) == 10) = false := by simpa using hq11
          have hq13 : ((q : Int) != 10) = true := by simpa using hq11
          clear HTWO
          have HL := hidden (show OpsAt (w1.alloc (.cells #[.int .i64 2, .int .i64 0, .string ⟨x.toArray⟩, .int .i64 4, .int .i64 0, .string ⟨#[122, 10]⟩] 33)) (.slice (some ⟨w1.heap.size, 0, none⟩) 2 2) [(2, 0, x), (4, 0, [122, 10])] from ops_lit (World.alloc_heap_new w1 _) rfl rfl)
          have HF := hidden (show Fit [(2, 0, x), (4, 0, [122, 10])] from fun y hy => by simp at hy; rcases hy with rfl | rfl; (· show x.length ≤ _; omega); simp)
          go_wp2_with (first | (go_at_call 25; refine (rightLineX x _ (by omega)).mono ?_; rw [HRT.out]; rintro e w' ⟨rfl, rfl⟩) | (go_at_call 11; refine (oright_any _ _ _ HL.out (by simp) HF.out).mono ?_; rw [HV.out]; rintro e w9 ⟨rfl, hb9⟩))
          go_ret
          exact ⟨by first | rfl | simp, (bel_alloc HB1.out _).trans (hb9.mono (bel_alloc HB1.out _).size)⟩
    · rcases hn with rfl | rfl | rfl | rfl
      · by_cases hq10 : q = 10
        · have HV := hidden (show right [(3, 0, x), (1, n, [])] = true by have h9 := HTWO.out; simp [hcl, hq10] at h9; simpa using h9)
          subst hq10
          clear HTWO
          have HL := hidden (show OpsAt (w1.alloc (.cells #[.int .i64 3, .int .i64 0, .string ⟨x.toArray⟩, .int .i64 1, .int .i64 n, .string ⟨#[]⟩] 33)) (.slice (some ⟨w1.heap.size, 0, none⟩) 2 2) [(3, 0, x), (1, n, [])] from ops_lit (World.alloc_heap_new w1 _) rfl rfl)
          have HF := hidden (show Fit [(3, 0, x), (1, n, [])] from fun y hy => by simp at hy; rcases hy with rfl | rfl; (· show x.length ≤ _; omega); simp)
          go_wp2_with (first | (go_at_call 25; refine (rightLineX x _ (by omega)).mono ?_; rw [HRT.out]; rintro e w' ⟨rfl, rfl⟩) | (go_at_call 11; refine (oright_any _ _ _ HL.out (by simp) HF.out).mono ?_; rw [HV.out]; rintro e w9 ⟨rfl, hb9⟩))
          go_ret
          exact ⟨by first | rfl | simp, (bel_alloc HB1.out _).trans (hb9.mono (bel_alloc HB1.out _).size)⟩
        · have HV := hidden (show right [(3, 0, x), (1, n, [])] = false by have h9 := HTWO.out; simp [hcl, hq10] at h9; simpa using h9)
          have hq11 : ¬ (q : Int) = 10 := by omega
          have hq12 : ((q : Int) == 10) = false := by simpa using hq11
          have hq13 : ((q : Int) != 10) = true := by simpa using hq11
          clear HTWO
          have HL := hidden (show OpsAt (w1.alloc (.cells #[.int .i64 3, .int .i64 0, .string ⟨x.toArray⟩, .int .i64 1, .int .i64 n, .string ⟨#[]⟩] 33)) (.slice (some ⟨w1.heap.size, 0, none⟩) 2 2) [(3, 0, x), (1, n, [])] from ops_lit (World.alloc_heap_new w1 _) rfl rfl)
          have HF := hidden (show Fit [(3, 0, x), (1, n, [])] from fun y hy => by simp at hy; rcases hy with rfl | rfl; (· show x.length ≤ _; omega); simp)
          go_wp2_with (first | (go_at_call 25; refine (rightLineX x _ (by omega)).mono ?_; rw [HRT.out]; rintro e w' ⟨rfl, rfl⟩) | (go_at_call 11; refine (oright_any _ _ _ HL.out (by simp) HF.out).mono ?_; rw [HV.out]; rintro e w9 ⟨rfl, hb9⟩))
          go_ret
          exact ⟨by first | rfl | simp, (bel_alloc HB1.out _).trans (hb9.mono (bel_alloc HB1.out _).size)⟩
      · by_cases hq10 : q = 10
        · have HV := hidden (show right [(3, 0, x), (2, 0, [122, 10])] = true by have h9 := HTWO.out; simp [hcl, hq10] at h9; simpa using h9)
          subst hq10
          clear HTWO
          have HL := hidden (show OpsAt (w1.alloc (.cells #[.int .i64 3, .int .i64 0, .string ⟨x.toArray⟩, .int .i64 2, .int .i64 0, .string ⟨#[122, 10]⟩] 33)) (.slice (some ⟨w1.heap.size, 0, none⟩) 2 2) [(3, 0, x), (2, 0, [122, 10])] from ops_lit (World.alloc_heap_new w1 _) rfl rfl)
          have HF := hidden (show Fit [(3, 0, x), (2, 0, [122, 10])] from fun y hy => by simp at hy; rcases hy with rfl | rfl; (· show x.length ≤ _; omega); simp)
          go_wp2_with (first | (go_at_call 25; refine (rightLineX x _ (by omega)).mono ?_; rw [HRT.out]; rintro e w' ⟨rfl, rfl⟩) | (go_at_call 11; refine (oright_any _ _ _ HL.out (by simp) HF.out).mono ?_; rw [HV.out]; rintro e w9 ⟨rfl, hb9⟩))
          go_ret
          exact ⟨by first | rfl | simp, (bel_alloc HB1.out _).trans (hb9.mono (bel_alloc HB1.out _).size)⟩
        · have HV := hidden (show right [(3, 0, x), (2, 0, [122, 10])] = false by have h9 := HTWO.out; simp [hcl, hq10] at h9; simpa using h9)
          have hq11 : ¬ (q : Int) = 10 := by omega
          have hq12 : ((q : Int) == 10) = false := by simpa using hq11
          have hq13 : ((q : Int) != 10) = true := by simpa using hq11
          clear HTWO
          have HL := hidden (show OpsAt (w1.alloc (.cells #[.int .i64 3, .int .i64 0, .string ⟨x.toArray⟩, .int .i64 2, .int .i64 0, .string ⟨#[122, 10]⟩] 33)) (.slice (some ⟨w1.heap.size, 0, none⟩) 2 2) [(3, 0, x), (2, 0, [122, 10])] from ops_lit (World.alloc_heap_new w1 _) rfl rfl)
          have HF := hidden (show Fit [(3, 0, x), (2, 0, [122, 10])] from fun y hy => by simp at hy; rcases hy with rfl | rfl; (· show x.length ≤ _; omega); simp)
          go_wp2_with (first | (go_at_call 25; refine (rightLineX x _ (by omega)).mono ?_; rw [HRT.out]; rintro e w' ⟨rfl, rfl⟩) | (go_at_call 11; refine (oright_any _ _ _ HL.out (by simp) HF.out).mono ?_; rw [HV.out]; rintro e w9 ⟨rfl, hb9⟩))
          go_ret
          exact ⟨by first | rfl | simp, (bel_alloc HB1.out _).trans (hb9.mono (bel_alloc HB1.out _).size)⟩
      · by_cases hq10 : q = 10
        · have HV := hidden (show right [(3, 0, x), (3, 0, [122, 10])] = true by have h9 := HTWO.out; simp [hcl, hq10] at h9; simpa using h9)
          subst hq10
          clear HTWO
          have HL := hidden (show OpsAt (w1.alloc (.cells #[.int .i64 3, .int .i64 0, .string ⟨x.toArray⟩, .int .i64 3, .int .i64 0, .string ⟨#[122, 10]⟩] 33)) (.slice (some ⟨w1.heap.size, 0, none⟩) 2 2) [(3, 0, x), (3, 0, [122, 10])] from ops_lit (World.alloc_heap_new w1 _) rfl rfl)
          have HF := hidden (show Fit [(3, 0, x), (3, 0, [122, 10])] from fun y hy => by simp at hy; rcases hy with rfl | rfl; (· show x.length ≤ _; omega); simp)
          go_wp2_with (first | (go_at_call 25; refine (rightLineX x _ (by omega)).mono ?_; rw [HRT.out]; rintro e w' ⟨rfl, rfl⟩) | (go_at_call 11; refine (oright_any _ _ _ HL.out (by simp) HF.out).mono ?_; rw [HV.out]; rintro e w9 ⟨rfl, hb9⟩))
          go_ret
          exact ⟨by first | rfl | simp, (bel_alloc HB1.out _).trans (hb9.mono (bel_alloc HB1.out _).size)⟩
        · have HV := hidden (show right [(3, 0, x), (3, 0, [122, 10])] = false by have h9 := HTWO.out; simp [hcl, hq10] at h9; simpa using h9)
          have hq11 : ¬ (q : Int) = 10 := by omega
          have hq12 : ((q : Int) == 10) = false := by simpa using hq11
          have hq13 : ((q : Int) != 10) = true := by simpa using hq11
          clear HTWO
          have HL := hidden (show OpsAt (w1.alloc (.cells #[.int .i64 3, .int .i64 0, .string ⟨x.toArray⟩, .int .i64 3, .int .i64 0, .string ⟨#[122, 10]⟩] 33)) (.slice (some ⟨w1.heap.size, 0, none⟩) 2 2) [(3, 0, x), (3, 0, [122, 10])] from ops_lit (World.alloc_heap_new w1 _) rfl rfl)
          have HF := hidden (show Fit [(3, 0, x), (3, 0, [122, 10])] from fun y hy => by simp at hy; rcases hy with rfl | rfl; (· show x.length ≤ _; omega); simp)
          go_wp2_with (first | (go_at_call 25; refine (rightLineX x _ (by omega)).mono ?_; rw [HRT.out]; rintro e w' ⟨rfl, rfl⟩) | (go_at_call 11; refine (oright_any _ _ _ HL.out (by simp) HF.out).mono ?_; rw [HV.out]; rintro e w9 ⟨rfl, hb9⟩))
          go_ret
          exact ⟨by first | rfl | simp, (bel_alloc HB1.out _).trans (hb9.mono (bel_alloc HB1.out _).size)⟩
      · by_cases hq10 : q = 10
        · have HV := hidden (show right [(3, 0, x), (4, 0, [122, 10])] = true by have h9 := HTWO.out; simp [hcl, hq10] at h9; simpa using h9)
          subst hq10
          clear HTWO
          have HL := hidden (show OpsAt (w1.alloc (.cells #[.int .i64 3, .int .i64 0, .string ⟨x.toArray⟩, .int .i64 4, .int .i64 0, .string ⟨#[122, 10]⟩] 33)) (.slice (some ⟨w1.heap.size, 0, none⟩) 2 2) [(3, 0, x), (4, 0, [122, 10])] from ops_lit (World.alloc_heap_new w1 _) rfl rfl)
          have HF := hidden (show Fit [(3, 0, x), (4, 0, [122, 10])] from fun y hy => by simp at hy; rcases hy with rfl | rfl; (· show x.length ≤ _; omega); simp)
          go_wp2_with (first | (go_at_call 25; refine (rightLineX x _ (by omega)).mono ?_; rw [HRT.out]; rintro e w' ⟨rfl, rfl⟩) | (go_at_call 11; refine (oright_any _ _ _ HL.out (by simp) HF.out).mono ?_; rw [HV.out]; rintro e w9 ⟨rfl, hb9⟩))
          go_ret
          exact ⟨by first | rfl | simp, (bel_alloc HB1.out _).trans (hb9.mono (bel_alloc HB1.out _).size)⟩
        · have HV := hidden (show right [(3, 0, x), (4, 0, [122, 10])] = true by have h9 := HTWO.out; simp [hcl, hq10] at h9; simpa using h9)
          have hq11 : ¬ (q : Int) = 10 := by omega
          have hq12 : ((q : Int) == 10) = false := by simpa using hq11
          have hq13 : ((q : Int) != 10) = true := by simpa using hq11
          clear HTWO
          have HL := hidden (show OpsAt (w1.alloc (.cells #[.int .i64 3, .int .i64 0, .string ⟨x.toArray⟩, .int .i64 4, .int .i64 0, .string ⟨#[122, 10]⟩] 33)) (.slice (some ⟨w1.heap.size, 0, none⟩) 2 2) [(3, 0, x), (4, 0, [122, 10])] from ops_lit (World.alloc_heap_new w1 _) rfl rfl)
          have HF := hidden (show Fit [(3, 0, x), (4, 0, [122, 10])] from fun y hy => by simp at hy; rcases hy with rfl | rfl; (· show x.length ≤ _; omega); simp)
          go_wp2_with (first | (go_at_call 25; refine (rightLineX x _ (by omega)).mono ?_; rw [HRT.out]; rintro e w' ⟨rfl, rfl⟩) | (go_at_call 11; refine (oright_any _ _ _ HL.out (by simp) HF.out).mono ?_; rw [HV.out]; rintro e w9 ⟨rfl, hb9⟩))
          go_ret
          exact ⟨by first | rfl | simp, (bel_alloc HB1.out _).trans (hb9.mono (bel_alloc HB1.out _).size)⟩
    · rcases hn with rfl | rfl | rfl | rfl
      · by_cases hq10 : q = 10
        · have HV := hidden (show right [(4, 0, x), (1, n, [])] = true by have h9 := HTWO.out; simp [hcl, hq10] at h9; simpa using h9)
          subst hq10
          clear HTWO
          have HL := hidden (show OpsAt (w1.alloc (.cells #[.int .i64 4, .int .i64 0, .string ⟨x.toArray⟩, .int .i64 1, .int .i64 n, .string ⟨#[]⟩] 33)) (.slice (some ⟨w1.heap.size, 0, none⟩) 2 2) [(4, 0, x), (1, n, [])] from ops_lit (World.alloc_heap_new w1 _) rfl rfl)
          have HF := hidden (show Fit [(4, 0, x), (1, n, [])] from fun y hy => by simp at hy; rcases hy with rfl | rfl; (· show x.length ≤ _; omega); simp)
          go_wp2_with (first | (go_at_call 25; refine (rightLineX x _ (by omega)).mono ?_; rw [HRT.out]; rintro e w' ⟨rfl, rfl⟩) | (go_at_call 11; refine (oright_any _ _ _ HL.out (by simp) HF.out).mono ?_; rw [HV.out]; rintro e w9 ⟨rfl, hb9⟩))
          go_ret
          exact ⟨by first | rfl | simp, (bel_alloc HB1.out _).trans (hb9.mono (bel_alloc HB1.out _).size)⟩
        · have HV := hidden (show right [(4, 0, x), (1, n, [])] = false by have h9 := HTWO.out; simp [hcl, hq10] at h9; simpa using h9)
          have hq11 : ¬ (q : Int) = 10 := by omega
          have hq12 : ((q : Int) == 10) = false := by simpa using hq11
          have hq13 : ((q : Int) != 10) = true := by simpa using hq11
          clear HTWO
          have HL := hidden (show OpsAt (w1.alloc (.cells #[.int .i64 4, .int .i64 0, .string ⟨x.toArray⟩, .int .i64 1, .int .i64 n, .string ⟨#[]⟩] 33)) (.slice (some ⟨w1.heap.size, 0, none⟩) 2 2) [(4, 0, x), (1, n, [])] from ops_lit (World.alloc_heap_new w1 _) rfl rfl)
          have HF := hidden (show Fit [(4, 0, x), (1, n, [])] from fun y hy => by simp at hy; rcases hy with rfl | rfl; (· show x.length ≤ _; omega); simp)
          go_wp2_with (first | (go_at_call 25; refine (rightLineX x _ (by omega)).mono ?_; rw [HRT.out]; rintro e w' ⟨rfl, rfl⟩) | (go_at_call 11; refine (oright_any _ _ _ HL.out (by simp) HF.out).mono ?_; rw [HV.out]; rintro e w9 ⟨rfl, hb9⟩))
          go_ret
          exact ⟨by first | rfl | simp, (bel_alloc HB1.out _).trans (hb9.mono (bel_alloc HB1.out _).size)⟩
      · by_cases hq10 : q = 10
        · have HV := hidden (show right [(4, 0, x), (2, 0, [122, 10])] = true by have h9 := HTWO.out; simp [hcl, hq10] at h9; simpa using h9)
          subst hq10
          clear HTWO
          have HL := hidden (show OpsAt (w1.alloc (.cells #[.int .i64 4, .int .i64 0, .string ⟨x.toArray⟩, .int .i64 2, .int .i64 0, .string ⟨#[122, 10]⟩] 33)) (.slice (some ⟨w1.heap.size, 0, none⟩) 2 2) [(4, 0, x), (2, 0, [122, 10])] from ops_lit (World.alloc_heap_new w1 _) rfl rfl)
          have HF := hidden (show Fit [(4, 0, x), (2, 0, [122, 10])] from fun y hy => by simp at hy; rcases hy with rfl | rfl; (· show x.length ≤ _; omega); simp)
          go_wp2_with (first | (go_at_call 25; refine (rightLineX x _ (by omega)).mono ?_; rw [HRT.out]; rintro e w' ⟨rfl, rfl⟩) | (go_at_call 11; refine (oright_any _ _ _ HL.out (by simp) HF.out).mono ?_; rw [HV.out]; rintro e w9 ⟨rfl, hb9⟩))
          go_ret
          exact ⟨by first | rfl | simp, (bel_alloc HB1.out _).trans (hb9.mono (bel_alloc HB1.out _).size)⟩
        · have HV := hidden (show right [(4, 0, x), (2, 0, [122, 10])] = false by have h9 := HTWO.out; simp [hcl, hq10] at h9; simpa using h9)
          have hq11 : ¬ (q : Int) = 10 := by omega
          have hq12 : ((q : Int) == 10) = false := by simpa using hq11
          have hq13 : ((q : Int) != 10) = true := by simpa using hq11
          clear HTWO
          have HL := hidden (show OpsAt (w1.alloc (.cells #[.int .i64 4, .int .i64 0, .string ⟨x.toArray⟩, .int .i64 2, .int .i64 0, .string ⟨#[122, 10]⟩] 33)) (.slice (some ⟨w1.heap.size, 0, none⟩) 2 2) [(4, 0, x), (2, 0, [122, 10])] from ops_lit (World.alloc_heap_new w1 _) rfl rfl)
          have HF := hidden (show Fit [(4, 0, x), (2, 0, [122, 10])] from fun y hy => by simp at hy; rcases hy with rfl | rfl; (· show x.length ≤ _; omega); simp)
          go_wp2_with (first | (go_at_call 25; refine (rightLineX x _ (by omega)).mono ?_; rw [HRT.out]; rintro e w' ⟨rfl, rfl⟩) | (go_at_call 11; refine (oright_any _ _ _ HL.out (by simp) HF.out).mono ?_; rw [HV.out]; rintro e w9 ⟨rfl, hb9⟩))
          go_ret
          exact ⟨by first | rfl | simp, (bel_alloc HB1.out _).trans (hb9.mono (bel_alloc HB1.out _).size)⟩
      · by_cases hq10 : q = 10
        · have HV := hidden (show right [(4, 0, x), (3, 0, [122, 10])] = true by have h9 := HTWO.out; simp [hcl, hq10] at h9; simpa using h9)
          subst hq10
          clear HTWO
          have HL := hidden (show OpsAt (w1.alloc (.cells #[.int .i64 4, .int .i64 0, .string ⟨x.toArray⟩, .int .i64 3, .int .i64 0, .string ⟨#[122, 10]⟩] 33)) (.slice (some ⟨w1.heap.size, 0, none⟩) 2 2) [(4, 0, x), (3, 0, [122, 10])] from ops_lit (World.alloc_heap_new w1 _) rfl rfl)
          have HF := hidden (show Fit [(4, 0, x), (3, 0, [122, 10])] from fun y hy => by simp at hy; rcases hy with rfl | rfl; (· show x.length ≤ _; omega); simp)
          go_wp2_with (first | (go_at_call 25; refine (rightLineX x _ (by omega)).mono ?_; rw [HRT.out]; rintro e w' ⟨rfl, rfl⟩) | (go_at_call 11; refine (oright_any _ _ _ HL.out (by simp) HF.out).mono ?_; rw [HV.out]; rintro e w9 ⟨rfl, hb9⟩))
          go_ret
          exact ⟨by first | rfl | simp, (bel_alloc HB1.out _).trans (hb9.mono (bel_alloc HB1.out _).size)⟩
        · have HV := hidden (show right [(4, 0, x), (3, 0, [122, 10])] = true by have h9 := HTWO.out; simp [hcl, hq10] at h9; simpa using h9)
          have hq11 : ¬ (q : Int) = 10 := by omega
          have hq12 : ((q : Int) == 10) = false := by simpa using hq11
          have hq13 : ((q : Int) != 10) = true := by simpa using hq11
          clear HTWO
          have HL := hidden (show OpsAt (w1.alloc (.cells #[.int .i64 4, .int .i64 0, .string ⟨x.toArray⟩, .int .i64 3, .int .i64 0, .string ⟨#[122, 10]⟩] 33)) (.slice (some ⟨w1.heap.size, 0, none⟩) 2 2) [(4, 0, x), (3, 0, [122, 10])] from ops_lit (World.alloc_heap_new w1 _) rfl rfl)
          have HF := hidden (show Fit [(4, 0, x), (3, 0, [122, 10])] from fun y hy => by simp at hy; rcases hy with rfl | rfl; (· show x.length ≤ _; omega); simp)
          go_wp2_with (first | (go_at_call 25; refine (rightLineX x _ (by omega)).mono ?_; rw [HRT.out]; rintro e w' ⟨rfl, rfl⟩) | (go_at_call 11; refine (oright_any _ _ _ HL.out (by simp) HF.out).mono ?_; rw [HV.out]; rintro e w9 ⟨rfl, hb9⟩))
          go_ret
          exact ⟨by first | rfl | simp, (bel_alloc HB1.out _).trans (hb9.mono (bel_alloc HB1.out _).size)⟩
      · by_cases hq10 : q = 10
        · have HV := hidden (show right [(4, 0, x), (4, 0, [122, 10])] = true by have h9 := HTWO.out; simp [hcl, hq10] at h9; simpa using h9)
          subst hq10
          clear HTWO
          have HL := hidden (show OpsAt (w1.alloc (.cells #[.int .i64 4, .int .i64 0, .string ⟨x.toArray⟩, .int .i64 4, .int .i64 0, .string ⟨#[122, 10]⟩] 33)) (.slice (some ⟨w1.heap.size, 0, none⟩) 2 2) [(4, 0, x), (4, 0, [122, 10])] from ops_lit (World.alloc_heap_new w1 _) rfl rfl)
          have HF := hidden (show Fit [(4, 0, x), (4, 0, [122, 10])] from fun y hy => by simp at hy; rcases hy with rfl | rfl; (· show x.length ≤ _; omega); simp)
          go_wp2_with (first | (go_at_call 25; refine (rightLineX x _ (by omega)).mono ?_; rw [HRT.out]; rintro e w' ⟨rfl, rfl⟩) | (go_at_call 11; refine (oright_any _ _ _ HL.out (by simp) HF.out).mono ?_; rw [HV.out]; rintro e w9 ⟨rfl, hb9⟩))
          go_ret
          exact ⟨by first | rfl | simp, (bel_alloc HB1.out _).trans (hb9.mono (bel_alloc HB1.out _).size)⟩
        · have HV := hidden (show right [(4, 0, x), (4, 0, [122, 10])] = false by have h9 := HTWO.out; simp [hcl, hq10] at h9; simpa using h9)
          have hq11 : ¬ (q : Int) = 10 := by omega
          have hq12 : ((q : Int) == 10) = false := by simpa using hq11
          have hq13 : ((q : Int) != 10) = true := by simpa using hq11
          clear HTWO
          have HL := hidden (show OpsAt (w1.alloc (.cells #[.int .i64 4, .int .i64 0, .string ⟨x.toArray⟩, .int .i64 4, .int .i64 0, .string ⟨#[122, 10]⟩] 33)) (.slice (some ⟨w1.heap.size, 0, none⟩) 2 2) [(4, 0, x), (4, 0, [122, 10])] from ops_lit (World.alloc_heap_new w1 _) rfl rfl)
          have HF := hidden (show Fit [(4, 0, x), (4, 0, [122, 10])] from fun y hy => by simp at hy; rcases hy with rfl | rfl; (· show x.length ≤ _; omega); simp)
          go_wp2_with (first | (go_at_call 25; refine (rightLineX x _ (by omega)).mono ?_; rw [HRT.out]; rintro e w' ⟨rfl, rfl⟩) | (go_at_call 11; refine (oright_any _ _ _ HL.out (by simp) HF.out).mono ?_; rw [HV.out]; rintro e w9 ⟨rfl, hb9⟩))
          go_ret
          exact ⟨by first | rfl | simp, (bel_alloc HB1.out _).trans (hb9.mono (bel_alloc HB1.out _).size)⟩

end Go.Proofs.Ytkmoilfjaejjpaa
