
/-
  What the program's idle and long answer, and the library's OnesCount64; conditions: where the table stands.
-/
import Derived.Test.YtdjdiaadflggfaaBState
import Derived.Test.YtdjdiaadflggfaaBCount
import Derived.Laws.Bits128
namespace Go.Proofs.Ytdjdiaadflggfaa
open Go.RowKit Go.Proofs.Ytdjdiaadflggfaa.Ln Go.Proofs.Ytdjdiaadflggfaa.Ol

set_option maxHeartbeats 1000000 in
theorem bcount_any (x : Nat) (hx : x < 18446744073709551616) (w : World) : Calls Try.prog 26 #[.int .u64 x] w fun e w' => e = .returned (.int .i64 (cnb (fun i => x.testBit i) 64)) ∧ w' = w := by
  obtain ⟨x1, x2, x3, h1, h2, h3, l1, l2, l3, h4⟩ := bytes_sum x hx
  obtain ⟨y1, e1⟩ : ∃ y, x / 2 &&& 6148914691236517205 = y := ⟨_, rfl⟩
  obtain ⟨y2, e2⟩ : ∃ y, x &&& 6148914691236517205 = y := ⟨_, rfl⟩
  obtain ⟨z1, f1⟩ : ∃ y, x1 / 4 &&& 3689348814741910323 = y := ⟨_, rfl⟩
  obtain ⟨z2, f2⟩ : ∃ y, x1 &&& 3689348814741910323 = y := ⟨_, rfl⟩
  rw [e1, e2] at h1
  rw [f1, f2] at h2
  have a1 : bits BinOp.and IntKind.u64 ((x : Int) / 2) 6148914691236517205 = (y1 : Int) := by
    have := u64_and_nat (x / 2) 6148914691236517205 (by omega) (by decide)
    rw [e1] at this; exact this
  have a2 : bits BinOp.and IntKind.u64 (x : Int) 6148914691236517205 = (y2 : Int) := by
    have := u64_and_nat x 6148914691236517205 hx (by decide)
    rw [e2] at this; exact this
  have c1 : bits BinOp.and IntKind.u64 ((x1 : Int) / 4) 3689348814741910323 = (z1 : Int) := by
    have := u64_and_nat (x1 / 4) 3689348814741910323 (by omega) (by decide)
    rw [f1] at this; exact this
  have c2 : bits BinOp.and IntKind.u64 (x1 : Int) 3689348814741910323 = (z2 : Int) := by
    have := u64_and_nat x1 3689348814741910323 l1 (by decide)
    rw [f2] at this; exact this
  obtain ⟨m3, hm3⟩ : ∃ m, x2 / 16 + x2 = m := ⟨_, rfl⟩
  rw [hm3] at h3
  have c3 : bits BinOp.and IntKind.u64 (m3 : Int) 1085102592571150095 = (x3 : Int) := by
    have := u64_and_nat m3 1085102592571150095 (by omega) (by decide)
    rw [h3] at this; exact this
  obtain ⟨x4, hx4⟩ : ∃ m, x3 + x3 / 256 = m := ⟨_, rfl⟩
  rw [hx4] at h4
  obtain ⟨x5, hx5⟩ : ∃ m, x4 + x4 / 65536 = m := ⟨_, rfl⟩
  rw [hx5] at h4
  obtain ⟨x6, hx6⟩ : ∃ m, x5 + x5 / 4294967296 = m := ⟨_, rfl⟩
  rw [hx6] at h4
  have s1 : (y1 : Int) + y2 = x1 := by omega
  have s2 : (z1 : Int) + z2 = x2 := by omega
  have s3 : (x2 : Int) / 16 + x2 = m3 := by omega
  have s4 : (x3 : Int) + (x3 : Int) / 256 = x4 := by omega
  have s5 : (x4 : Int) + (x4 : Int) / 65536 = x5 := by omega
  have s6 : (x5 : Int) + (x5 : Int) / 4294967296 = x6 := by omega
  have k1 : (x1 : Int) < 18446744073709551616 := by omega
  have k2 : (x2 : Int) < 18446744073709551616 := by omega
  have k3 : (m3 : Int) < 18446744073709551616 := by omega
  have k4 : (x4 : Int) < 18446744073709551616 := by omega
  have k5 : (x5 : Int) < 18446744073709551616 := by omega
  have k6 : (x6 : Int) < 9223372036854775807 := by omega
  have H4 := hidden h4
  clear h1 h2 h3 h4 e1 e2 f1 f2 l1 l2 l3 hm3 hx4 hx5 hx6 hx
  go_enter Try.func26, Try.ntmps26
  go_wp2_with fail
  go_ret
  refine ⟨ret_int ?_, rfl⟩
  rw [i64_and127, ← H4.out]
  omega

theorem u64_not (x : Nat) (h : x < 18446744073709551616) : bits .xor .u64 IntKind.u64.max (x : Int) = ((18446744073709551615 - x : Nat) : Int) := by
  have e : IntKind.u64.max = ((18446744073709551615 : Nat) : Int) := by decide
  rw [e, u64_xor_nat _ _ (by decide) h]
  congr 1
  apply Nat.eq_of_testBit_eq
  intro i
  have h1 := Nat.testBit_two_pow_sub_succ (n := 64) (x := x) (by simpa using h) i
  rw [show 2 ^ 64 - (x + 1) = 18446744073709551615 - x by omega] at h1
  have h2 := Nat.testBit_two_pow_sub_one 64 i
  rw [show 2 ^ 64 - 1 = 18446744073709551615 by decide] at h2
  rw [Nat.testBit_xor, h1, h2]
  by_cases hi : i < 64
  · simp [hi]
  · have : x.testBit i = false := Nat.testBit_lt_two_pow (Nat.lt_of_lt_of_le (by simpa using h) (Nat.pow_le_pow_right (by decide) (by omega : 64 ≤ i)))
    simp [hi, this]
theorem cnt_word (f : Bs) (k : Nat) : cnb (fun i => (Gl.word f k).testBit i) 64 = cnb (fun i => f (64 * k + i)) 64 := cnb_congr fun i hi => by
  rw [Gl.word_bit]; simp [hi]

set_option maxHeartbeats 1000000 in
theorem blong_any {B T : Nat} {ah wd mo : Int} {v0 v1 : Value} {at_ : Nat} {vI vT vS : Value} {V : Bs} {N : Nat} {L : List Tn} {S : List Sp} {w : World} (h : Tb B T ah wd mo v0 v1 at_ vI vT vS V N L S w) (hN : N ≤ 4194304) :
    Calls Try.prog 18 #[.pointer (some ⟨T, 0, none⟩)] w fun e w' => e = .returned (.int .i64 (cnb (fun i => !V i) (64 * N))) ∧ w' = w := by
  obtain ⟨aI, cI, rfl, hcI, haI⟩ := own_shape h.ids
  have HT := hidden h
  have t5 := h.c.cells.2.2.2.2.2.1
  clear h
  go_enter Try.func18, Try.ntmps18
  go_wp2_with fail
  go_loopw [3, 11] (fun s i wr => ∃ k : Nat, k ≤ N ∧ i = .int .i64 k ∧ s = .int .i64 (cnb (fun i => !V i) (64 * k)) ∧ wr = w) (fun _ i _ => N - (intOf i).toNat)
  case atStart => exact ⟨0, Nat.zero_le _, rfl, rfl, rfl⟩
  case round =>
    obtain ⟨k, hk, rfl, rfl, hw⟩ := hrel
    subst hw
    have hcl := cnb_le (fun i => !V i) (64 * k)
    by_cases hlt : k < N
    · obtain ⟨g, rfl⟩ : ∃ g, aI = some ⟨g, 0, none⟩ := by
        obtain ⟨g, cp, e, _⟩ := HT.out.ids.form (by omega)
        cases e
        exact ⟨g, rfl⟩
      obtain ⟨x, hx⟩ : ∃ x, Gl.word V k = x := ⟨_, rfl⟩
      have hxl : x < 18446744073709551616 := by rw [← hx]; exact Gl.word_lt V k
      have g0 : wr.cell? ⟨g, k, none⟩ = some (.int .u64 x) := by rw [HT.out.ids.cellAt k (by omega), wcells_at V hlt, hx]
      have hno := u64_not x hxl
      have hno2 : bits BinOp.xor IntKind.u64 (if IntKind.u64.signed = true then -1 else IntKind.u64.max) (x : Int) = ((18446744073709551615 - x : Nat) : Int) := hno
      obtain ⟨y, hy⟩ : ∃ y, 18446744073709551615 - x = y := ⟨_, rfl⟩
      rw [hy] at hno hno2
      have HY := hidden (show Gl.word (fun p => !V p) k = y by rw [← hy, ← hx, Gl.word_not])
      have hyl : y < 18446744073709551616 := by omega
      have HCN := hidden (show cnb (fun i => !V i) (64 * k) + cnb (fun i => y.testBit i) 64 = cnb (fun i => !V i) (64 * (k + 1)) by
        rw [← HY.out, cnt_word, show 64 * (k + 1) = 64 * k + 64 by omega, cnb_add])
      have hcl2 := cnb_le (fun i => y.testBit i) 64
      clear hx hy
      go_wp2_with fail
      refine (bcount_any y hyl _).mono ?_
      rintro e w2 ⟨rfl, hw⟩
      subst w2
      obtain ⟨p1, hp1⟩ : ∃ p, cnb (fun i => !V i) (64 * k) = p := ⟨_, rfl⟩
      obtain ⟨p2, hp2⟩ : ∃ p, cnb (fun i => y.testBit i) 64 = p := ⟨_, rfl⟩
      rw [hp1, hp2] at HCN
      rw [hp1] at hcl ⊢
      rw [hp2] at hcl2 ⊢
      clear hp1 hp2
      go_wp2_with fail
      go_roundw
      case rel => exact ⟨k + 1, by omega, by go_num, by rw [← HCN.out]; go_num, by first | rfl | trivial⟩
      case measure => simp [intOf]; omega
    · obtain rfl : k = N := by omega
      go_wp2_with fail
      go_ret
      exact ⟨rfl, rfl⟩

set_option maxHeartbeats 1000000 in
theorem bidle_any {B T : Nat} {ah wd mo : Int} {v0 v1 : Value} {at_ : Nat} {vI vT vS : Value} {V : Bs} {N : Nat} {L : List Tn} {S : List Sp} {w : World} (h : Tb B T ah wd mo v0 v1 at_ vI vT vS V N L S w) (hN : N ≤ 4194304) (p : Nat) (hp : p ≤ 4194304) :
    Calls Try.prog 21 #[.pointer (some ⟨T, 0, none⟩), .int .i64 p] w fun e w' => e = .returned (.bool (V p)) ∧ w' = w := by
  obtain ⟨aI, cI, rfl, hcI, haI⟩ := own_shape h.ids
  have HT := hidden h
  have t5 := h.c.cells.2.2.2.2.2.1
  clear h
  obtain ⟨q, hq⟩ : ∃ q, p / 64 = q := ⟨_, rfl⟩
  have hqI : (p : Int) / 64 = q := by omega
  have hqT : (p : Int).tdiv 64 = q := by rw [Int.tdiv_eq_ediv_of_nonneg (by omega)]; exact hqI
  by_cases hge : N ≤ q
  · have hd : decide ((q : Int) ≥ N) = true := by simp; omega
    have hd2 : decide ((N : Int) ≤ q) = true := by simp; omega
    have HV := hidden (HT.out.top p (by omega))
    go_enter Try.func21, Try.ntmps21
    go_wp2_with fail
    go_ret
    exact ⟨by rw [HV.out]; rfl, rfl⟩
  · have hd : decide ((q : Int) ≥ N) = false := by simp; omega
    have hd2 : decide ((N : Int) ≤ q) = false := by simp; omega
    obtain ⟨g, rfl⟩ : ∃ g, aI = some ⟨g, 0, none⟩ := by
      obtain ⟨g, cp, e, _⟩ := HT.out.ids.form (by omega)
      cases e
      exact ⟨g, rfl⟩
    obtain ⟨x, hx⟩ : ∃ x, Gl.word V q = x := ⟨_, rfl⟩
    have hxl : x < 18446744073709551616 := by rw [← hx]; exact Gl.word_lt V q
    have g0 : w.cell? ⟨g, q, none⟩ = some (.int .u64 x) := by rw [HT.out.ids.cellAt q (by omega), wcells_at V (by omega), hx]
    have HH := hidden (show (x / 2 ^ (p % 64) &&& 1 = 1) = (V p = true) by rw [← hx, ← hq]; exact Gl.word_has V p)
    clear hx
    go_enter Try.func21, Try.ntmps21
    go_wp2_with fail
    go_ret
    refine ⟨ret_bool ?_, rfl⟩
    have e1 : ((x : Int) / 2 ^ (p % 64)) = ((x / 2 ^ (p % 64) : Nat) : Int) := by
      rw [Int.natCast_ediv, Int.natCast_pow]; rfl
    have e2 : x / 2 ^ (p % 64) < 18446744073709551616 := Nat.lt_of_le_of_lt (Nat.div_le_self _ _) hxl
    have e3 := u64_and_nat (x / 2 ^ (p % 64)) 1 e2 (by decide)
    rw [e1, show (1 : Int) = ((1 : Nat) : Int) from rfl, e3]
    have h4 := HH.out
    by_cases h : V p = true
    · rw [h, h4.mpr h]; rfl
    · have h5 : ¬ (x / 2 ^ (p % 64) &&& 1 = 1) := fun e => h (h4.mp e)
      rw [Bool.not_eq_true] at h
      rw [h, beq_eq_false_iff_ne]
      intro e
      exact h5 (by exact_mod_cast e)

end Go.Proofs.Ytdjdiaadflggfaa
