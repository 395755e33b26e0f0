/-
  What the program's timesOf, rightTimes, rightAlone and rightWithin answer of a node that lies in memory; conditions: how many parts it has.
-/
import Derived.Test.YtjlihidmohokhaaKBase
namespace Go.Proofs.Ytjlihidmohokhaa
open Go.RowKit Go.Proofs.Ytjlihidmohokhaa.Gl

set_option maxHeartbeats 2000000 in
theorem timesOf_any (k : Int) (f : Bs) (a : Option Addr) (n cap : Nat) (lo hi : Int) (most : Nat) (w : World) (hm : 1 ≤ most) (hm2 : most ≤ 1073741824) :
    Calls Try.prog 40 #[nodeV k f (.slice a n cap) lo hi, .int .i64 most] w fun e w' => e = .returned (.int .i64 (min (reps k lo hi) most : Nat)) ∧ Below w.heap.size w w' := by
  unfold nodeV
  by_cases hk : k = 5
  · subst hk
    have HR := hidden (show ((min (reps 5 lo hi) most : Nat) : Int) = min (max (max lo hi) 1) (most : Int) by
      unfold reps
      rw [if_pos rfl]
      omega)
    go_enter Try.func40, Try.ntmps40
    go_wp2
    all_goals
      go_ret
      refine ⟨ret_int ?_, (Below.refl _ w).alloc (Nat.le_refl _) _⟩
      rw [HR.out]
      omega
  · have HR := hidden (show ((min (reps k lo hi) most : Nat) : Int) = 1 by
      unfold reps
      rw [if_neg hk]
      omega)
    have hkb : (k != 5) = true := by rw [bne_iff_ne]; exact hk
    go_enter Try.func40, Try.ntmps40
    go_wp2
    go_ret
    exact ⟨ret_int HR.out.symm, (Below.refl _ w).alloc (Nat.le_refl _) _⟩

set_option maxHeartbeats 2000000 in
theorem rightTimes_any (lo hi : Int) (w : World) :
    Calls Try.prog 49 #[.int .i64 lo, .int .i64 hi] w fun e w' => e = .returned (.bool (okTimes lo hi)) ∧ w' = w := by
  by_cases h1 : lo < 0
  · have HF := hidden (show okTimes lo hi = false by unfold okTimes; simp; omega)
    go_enter Try.func49, Try.ntmps49
    go_wp2
    go_ret
    exact ⟨by rw [HF.out]; rfl, rfl⟩
  by_cases h2 : 200 < lo
  · have HF := hidden (show okTimes lo hi = false by unfold okTimes; simp; omega)
    go_enter Try.func49, Try.ntmps49
    go_wp2
    go_ret
    exact ⟨by rw [HF.out]; rfl, rfl⟩
  by_cases h3 : hi = -1
  · subst h3
    have HF := hidden (show okTimes lo (-1) = true by unfold okTimes; simp; omega)
    go_enter Try.func49, Try.ntmps49
    go_wp2
    go_ret
    exact ⟨by rw [HF.out]; rfl, rfl⟩
  have h3b : (hi == -1) = false := by rw [beq_eq_false_iff_ne]; exact h3
  by_cases h4 : lo ≤ hi
  · by_cases h5 : hi ≤ 200
    · have HF := hidden (show okTimes lo hi = true by unfold okTimes; simp; omega)
      go_enter Try.func49, Try.ntmps49
      go_wp2
      go_ret
      exact ⟨by rw [HF.out]; rfl, rfl⟩
    · have HF := hidden (show okTimes lo hi = false by unfold okTimes; simp; omega)
      go_enter Try.func49, Try.ntmps49
      go_wp2
      go_ret
      exact ⟨by rw [HF.out]; rfl, rfl⟩
  · have HF := hidden (show okTimes lo hi = false by unfold okTimes; simp; omega)
    go_enter Try.func49, Try.ntmps49
    go_wp2
    go_ret
    exact ⟨by rw [HF.out]; rfl, rfl⟩

set_option maxHeartbeats 8000000 in
theorem rightAlone_any (k : Int) (f : Bs) (a : Option Addr) (n cap : Nat) (lo hi : Int) (w : World) (hn : n ≤ 1048576) :
    Calls Try.prog 41 #[nodeV k f (.slice a n cap) lo hi] w fun e w' => e = .returned (.bool (aloneN k f n lo hi)) ∧ Below w.heap.size w w' := by
  have HQ := fun W => eqArr (word f 0) (word f 1) (word f 2) (word f 3) W
  rw [noSet_is] at HQ
  have HS := hidden (show noSet f = noSet f from rfl)
  obtain ⟨s, hs⟩ : ∃ s, s = noSet f := ⟨_, rfl⟩
  rw [← hs] at HQ
  have HA := hidden (show aloneN k f n lo hi = (if k = 1 ∨ k = 6 ∨ k = 7 then n == 0 && s && noTimes lo hi else if k = 2 then n == 0 && noTimes lo hi else if k = 3 ∨ k = 4 then decide (2 ≤ n) && s && noTimes lo hi else if k = 5 then n == 1 && s && okTimes lo hi else false) by rw [hs]; rfl)
  clear hs HS
  have HT := hidden (show ∀ W, Calls Try.prog 49 #[.int .i64 lo, .int .i64 hi] W fun e w' => e = .returned (.bool (okTimes lo hi)) ∧ w' = W from fun W => rightTimes_any lo hi W)
  unfold nodeV
  have hks : k = 1 ∨ k = 6 ∨ k = 7 ∨ k = 2 ∨ k = 3 ∨ k = 4 ∨ k = 5 ∨ (k ≠ 1 ∧ k ≠ 6 ∧ k ≠ 7 ∧ k ≠ 2 ∧ k ≠ 3 ∧ k ≠ 4 ∧ k ≠ 5) := by omega
  have HB := hidden (Below.refl w.heap.size w)
  have HKS := hidden hks
  clear hks
  by_cases hlo : lo = 0
  · subst hlo
    go_enter Try.func41, Try.ntmps41
    go_wp2_with fail
    go_quiet (fail)
    have HNT := hidden (show noTimes 0 hi = (hi == 0) by unfold noTimes; simp)
    generalize (hi == 0) = nt at HNT ⊢
    generalize hW2 : World.drewN _ nq = W2
    have HB2 := hidden (show Below w.heap.size w W2 by rw [← hW2]; (with_reducible (repeat (first | exact HB.out | apply bel_alloc | apply bel_put | apply bel_set | apply Below.drew | apply below_drewN | omega))))
    have HC2 := hidden (show Blk W2 w.heap.size (.int .i64 k) (.int .u64 (word f 0)) (.int .u64 (word f 1)) (.int .u64 (word f 2)) (.int .u64 (word f 3)) (.slice a n cap) (.int .i64 0) (.int .i64 hi) by rw [← hW2]; (with_reducible (repeat (first | exact HB.out | exact Blk.newAt (by simp) | apply Blk.alloc | apply Blk.put | apply Blk.putOther | apply Blk.other | apply Blk.drewN | apply Blk.drew | omega))))
    obtain ⟨c0, c1, c2, c3, c4, c5, c6, c7⟩ := HC2.out.cells
    clear hW2 HQ
    rcases HKS.out with hk | hk | hk | hk | hk | hk | hk | hk
    · subst hk
      by_cases hn0 : n = 0
      · subst hn0
        cases s
        · have HF := hidden (show aloneN 1 f 0 0 hi = false by rw [HA.out]; simp)
          go_wp2_with fail
          go_ret
          exact ⟨by rw [HF.out]; rfl, HB2.out⟩
        · have HF := hidden (show aloneN 1 f 0 0 hi = nt by rw [HA.out, HNT.out]; simp)
          go_wp2_with fail
          go_ret
          exact ⟨by rw [HF.out]; rfl, HB2.out⟩
      · have hnb : ((n : Int) == 0) = false := by rw [beq_eq_false_iff_ne]; omega
        have HF := hidden (show aloneN 1 f n 0 hi = false by rw [HA.out]; simp [hn0])
        clear hn0
        go_wp2_with fail
        go_ret
        exact ⟨by rw [HF.out]; rfl, HB2.out⟩
    · subst hk
      by_cases hn0 : n = 0
      · subst hn0
        cases s
        · have HF := hidden (show aloneN 6 f 0 0 hi = false by rw [HA.out]; simp)
          go_wp2_with fail
          go_ret
          exact ⟨by rw [HF.out]; rfl, HB2.out⟩
        · have HF := hidden (show aloneN 6 f 0 0 hi = nt by rw [HA.out, HNT.out]; simp)
          go_wp2_with fail
          go_ret
          exact ⟨by rw [HF.out]; rfl, HB2.out⟩
      · have hnb : ((n : Int) == 0) = false := by rw [beq_eq_false_iff_ne]; omega
        have HF := hidden (show aloneN 6 f n 0 hi = false by rw [HA.out]; simp [hn0])
        clear hn0
        go_wp2_with fail
        go_ret
        exact ⟨by rw [HF.out]; rfl, HB2.out⟩
    · subst hk
      by_cases hn0 : n = 0
      · subst hn0
        cases s
        · have HF := hidden (show aloneN 7 f 0 0 hi = false by rw [HA.out]; simp)
          go_wp2_with fail
          go_ret
          exact ⟨by rw [HF.out]; rfl, HB2.out⟩
        · have HF := hidden (show aloneN 7 f 0 0 hi = nt by rw [HA.out, HNT.out]; simp)
          go_wp2_with fail
          go_ret
          exact ⟨by rw [HF.out]; rfl, HB2.out⟩
      · have hnb : ((n : Int) == 0) = false := by rw [beq_eq_false_iff_ne]; omega
        have HF := hidden (show aloneN 7 f n 0 hi = false by rw [HA.out]; simp [hn0])
        clear hn0
        go_wp2_with fail
        go_ret
        exact ⟨by rw [HF.out]; rfl, HB2.out⟩
    · subst hk
      by_cases hn0 : n = 0
      · subst hn0
        have HF := hidden (show aloneN 2 f 0 0 hi = nt by rw [HA.out, HNT.out]; simp)
        go_wp2_with fail
        go_ret
        exact ⟨by rw [HF.out]; rfl, HB2.out⟩
      · have hnb : ((n : Int) == 0) = false := by rw [beq_eq_false_iff_ne]; omega
        have HF := hidden (show aloneN 2 f n 0 hi = false by rw [HA.out]; simp [hn0])
        clear hn0
        go_wp2_with fail
        go_ret
        exact ⟨by rw [HF.out]; rfl, HB2.out⟩
    · subst hk
      by_cases hn2 : 2 ≤ n
      · have hni : (2 : Int) ≤ n := by omega
        cases s
        · have HF := hidden (show aloneN 3 f n 0 hi = false by rw [HA.out]; simp)
          go_wp2_with fail
          go_ret
          exact ⟨by rw [HF.out]; rfl, HB2.out⟩
        · have HF := hidden (show aloneN 3 f n 0 hi = nt by rw [HA.out, HNT.out]; simp [hn2])
          go_wp2_with fail
          go_ret
          exact ⟨by rw [HF.out]; rfl, HB2.out⟩
      · have hni : ¬ (2 : Int) ≤ n := by omega
        have HF := hidden (show aloneN 3 f n 0 hi = false by rw [HA.out]; simp [hn2])
        clear hn2
        go_wp2_with fail
        go_ret
        exact ⟨by rw [HF.out]; rfl, HB2.out⟩
    · subst hk
      by_cases hn2 : 2 ≤ n
      · have hni : (2 : Int) ≤ n := by omega
        cases s
        · have HF := hidden (show aloneN 4 f n 0 hi = false by rw [HA.out]; simp)
          go_wp2_with fail
          go_ret
          exact ⟨by rw [HF.out]; rfl, HB2.out⟩
        · have HF := hidden (show aloneN 4 f n 0 hi = nt by rw [HA.out, HNT.out]; simp [hn2])
          go_wp2_with fail
          go_ret
          exact ⟨by rw [HF.out]; rfl, HB2.out⟩
      · have hni : ¬ (2 : Int) ≤ n := by omega
        have HF := hidden (show aloneN 4 f n 0 hi = false by rw [HA.out]; simp [hn2])
        clear hn2
        go_wp2_with fail
        go_ret
        exact ⟨by rw [HF.out]; rfl, HB2.out⟩
    · subst hk
      by_cases hn1 : n = 1
      · subst hn1
        cases s
        · have HF := hidden (show aloneN 5 f 1 0 hi = false by rw [HA.out]; simp)
          go_wp2_with fail
          go_ret
          exact ⟨by rw [HF.out]; rfl, HB2.out⟩
        · have HF := hidden (show aloneN 5 f 1 0 hi = okTimes 0 hi by rw [HA.out]; simp)
          go_wp2_with (go_at_call 49; refine (HT.out _).mono ?_; rintro e w' ⟨rfl, rfl⟩)
          go_ret
          exact ⟨by rw [HF.out]; rfl, HB2.out⟩
      · have hnb : ((n : Int) == 1) = false := by rw [beq_eq_false_iff_ne]; omega
        have HF := hidden (show aloneN 5 f n 0 hi = false by rw [HA.out]; simp [hn1])
        clear hn1
        go_wp2_with fail
        go_ret
        exact ⟨by rw [HF.out]; rfl, HB2.out⟩
    · obtain ⟨k1, k2, k3, k4, k5, k6, k7⟩ := hk
      have HF := hidden (show aloneN k f n 0 hi = false by rw [HA.out]; simp [k1, k2, k3, k4, k5, k6, k7])
      have j1 : (k == 1) = false := by rw [beq_eq_false_iff_ne]; exact k1
      have j2 : (k == 6) = false := by rw [beq_eq_false_iff_ne]; exact k2
      have j3 : (k == 7) = false := by rw [beq_eq_false_iff_ne]; exact k3
      have j4 : (k == 2) = false := by rw [beq_eq_false_iff_ne]; exact k4
      have j5 : (k == 3) = false := by rw [beq_eq_false_iff_ne]; exact k5
      have j6 : (k == 4) = false := by rw [beq_eq_false_iff_ne]; exact k6
      have j7 : (k == 5) = false := by rw [beq_eq_false_iff_ne]; exact k7
      clear k1 k2 k3 k4 k5 k6 k7
      go_wp2_with fail
      go_ret
      exact ⟨by rw [HF.out]; rfl, HB2.out⟩
  · have hlb : (lo == 0) = false := by rw [beq_eq_false_iff_ne]; exact hlo
    have HNT := hidden (show noTimes lo hi = false by unfold noTimes; rw [hlb]; rfl)
    clear hlo
    go_enter Try.func41, Try.ntmps41
    go_wp2_with fail
    go_quiet (fail)
    generalize hW2 : World.drewN _ nq = W2
    have HB2 := hidden (show Below w.heap.size w W2 by rw [← hW2]; (with_reducible (repeat (first | exact HB.out | apply bel_alloc | apply bel_put | apply bel_set | apply Below.drew | apply below_drewN | omega))))
    have HC2 := hidden (show Blk W2 w.heap.size (.int .i64 k) (.int .u64 (word f 0)) (.int .u64 (word f 1)) (.int .u64 (word f 2)) (.int .u64 (word f 3)) (.slice a n cap) (.int .i64 lo) (.int .i64 hi) by rw [← hW2]; (with_reducible (repeat (first | exact HB.out | exact Blk.newAt (by simp) | apply Blk.alloc | apply Blk.put | apply Blk.putOther | apply Blk.other | apply Blk.drewN | apply Blk.drew | omega))))
    obtain ⟨c0, c1, c2, c3, c4, c5, c6, c7⟩ := HC2.out.cells
    clear hW2 HQ
    rcases HKS.out with hk | hk | hk | hk | hk | hk | hk | hk
    · subst hk
      by_cases hn0 : n = 0
      · subst hn0
        cases s
        · have HF := hidden (show aloneN 1 f 0 lo hi = false by rw [HA.out]; simp)
          go_wp2_with fail
          go_ret
          exact ⟨by rw [HF.out]; rfl, HB2.out⟩
        · have HF := hidden (show aloneN 1 f 0 lo hi = false by rw [HA.out, HNT.out]; simp)
          go_wp2_with fail
          go_ret
          exact ⟨by rw [HF.out]; rfl, HB2.out⟩
      · have hnb : ((n : Int) == 0) = false := by rw [beq_eq_false_iff_ne]; omega
        have HF := hidden (show aloneN 1 f n lo hi = false by rw [HA.out]; simp [hn0])
        clear hn0
        go_wp2_with fail
        go_ret
        exact ⟨by rw [HF.out]; rfl, HB2.out⟩
    · subst hk
      by_cases hn0 : n = 0
      · subst hn0
        cases s
        · have HF := hidden (show aloneN 6 f 0 lo hi = false by rw [HA.out]; simp)
          go_wp2_with fail
          go_ret
          exact ⟨by rw [HF.out]; rfl, HB2.out⟩
        · have HF := hidden (show aloneN 6 f 0 lo hi = false by rw [HA.out, HNT.out]; simp)
          go_wp2_with fail
          go_ret
          exact ⟨by rw [HF.out]; rfl, HB2.out⟩
      · have hnb : ((n : Int) == 0) = false := by rw [beq_eq_false_iff_ne]; omega
        have HF := hidden (show aloneN 6 f n lo hi = false by rw [HA.out]; simp [hn0])
        clear hn0
        go_wp2_with fail
        go_ret
        exact ⟨by rw [HF.out]; rfl, HB2.out⟩
    · subst hk
      by_cases hn0 : n = 0
      · subst hn0
        cases s
        · have HF := hidden (show aloneN 7 f 0 lo hi = false by rw [HA.out]; simp)
          go_wp2_with fail
          go_ret
          exact ⟨by rw [HF.out]; rfl, HB2.out⟩
        · have HF := hidden (show aloneN 7 f 0 lo hi = false by rw [HA.out, HNT.out]; simp)
          go_wp2_with fail
          go_ret
          exact ⟨by rw [HF.out]; rfl, HB2.out⟩
      · have hnb : ((n : Int) == 0) = false := by rw [beq_eq_false_iff_ne]; omega
        have HF := hidden (show aloneN 7 f n lo hi = false by rw [HA.out]; simp [hn0])
        clear hn0
        go_wp2_with fail
        go_ret
        exact ⟨by rw [HF.out]; rfl, HB2.out⟩
    · subst hk
      by_cases hn0 : n = 0
      · subst hn0
        have HF := hidden (show aloneN 2 f 0 lo hi = false by rw [HA.out, HNT.out]; simp)
        go_wp2_with fail
        go_ret
        exact ⟨by rw [HF.out]; rfl, HB2.out⟩
      · have hnb : ((n : Int) == 0) = false := by rw [beq_eq_false_iff_ne]; omega
        have HF := hidden (show aloneN 2 f n lo hi = false by rw [HA.out]; simp [hn0])
        clear hn0
        go_wp2_with fail
        go_ret
        exact ⟨by rw [HF.out]; rfl, HB2.out⟩
    · subst hk
      by_cases hn2 : 2 ≤ n
      · have hni : (2 : Int) ≤ n := by omega
        cases s
        · have HF := hidden (show aloneN 3 f n lo hi = false by rw [HA.out]; simp)
          go_wp2_with fail
          go_ret
          exact ⟨by rw [HF.out]; rfl, HB2.out⟩
        · have HF := hidden (show aloneN 3 f n lo hi = false by rw [HA.out, HNT.out]; simp [hn2])
          go_wp2_with fail
          go_ret
          exact ⟨by rw [HF.out]; rfl, HB2.out⟩
      · have hni : ¬ (2 : Int) ≤ n := by omega
        have HF := hidden (show aloneN 3 f n lo hi = false by rw [HA.out]; simp [hn2])
        clear hn2
        go_wp2_with fail
        go_ret
        exact ⟨by rw [HF.out]; rfl, HB2.out⟩
    · subst hk
      by_cases hn2 : 2 ≤ n
      · have hni : (2 : Int) ≤ n := by omega
        cases s
        · have HF := hidden (show aloneN 4 f n lo hi = false by rw [HA.out]; simp)
          go_wp2_with fail
          go_ret
          exact ⟨by rw [HF.out]; rfl, HB2.out⟩
        · have HF := hidden (show aloneN 4 f n lo hi = false by rw [HA.out, HNT.out]; simp [hn2])
          go_wp2_with fail
          go_ret
          exact ⟨by rw [HF.out]; rfl, HB2.out⟩
      · have hni : ¬ (2 : Int) ≤ n := by omega
        have HF := hidden (show aloneN 4 f n lo hi = false by rw [HA.out]; simp [hn2])
        clear hn2
        go_wp2_with fail
        go_ret
        exact ⟨by rw [HF.out]; rfl, HB2.out⟩
    · subst hk
      by_cases hn1 : n = 1
      · subst hn1
        cases s
        · have HF := hidden (show aloneN 5 f 1 lo hi = false by rw [HA.out]; simp)
          go_wp2_with fail
          go_ret
          exact ⟨by rw [HF.out]; rfl, HB2.out⟩
        · have HF := hidden (show aloneN 5 f 1 lo hi = okTimes lo hi by rw [HA.out]; simp)
          go_wp2_with (go_at_call 49; refine (HT.out _).mono ?_; rintro e w' ⟨rfl, rfl⟩)
          go_ret
          exact ⟨by rw [HF.out]; rfl, HB2.out⟩
      · have hnb : ((n : Int) == 1) = false := by rw [beq_eq_false_iff_ne]; omega
        have HF := hidden (show aloneN 5 f n lo hi = false by rw [HA.out]; simp [hn1])
        clear hn1
        go_wp2_with fail
        go_ret
        exact ⟨by rw [HF.out]; rfl, HB2.out⟩
    · obtain ⟨k1, k2, k3, k4, k5, k6, k7⟩ := hk
      have HF := hidden (show aloneN k f n lo hi = false by rw [HA.out]; simp [k1, k2, k3, k4, k5, k6, k7])
      have j1 : (k == 1) = false := by rw [beq_eq_false_iff_ne]; exact k1
      have j2 : (k == 6) = false := by rw [beq_eq_false_iff_ne]; exact k2
      have j3 : (k == 7) = false := by rw [beq_eq_false_iff_ne]; exact k3
      have j4 : (k == 2) = false := by rw [beq_eq_false_iff_ne]; exact k4
      have j5 : (k == 3) = false := by rw [beq_eq_false_iff_ne]; exact k5
      have j6 : (k == 4) = false := by rw [beq_eq_false_iff_ne]; exact k6
      have j7 : (k == 5) = false := by rw [beq_eq_false_iff_ne]; exact k7
      clear k1 k2 k3 k4 k5 k6 k7
      go_wp2_with fail
      go_ret
      exact ⟨by rw [HF.out]; rfl, HB2.out⟩

end Go.Proofs.Ytjlihidmohokhaa
