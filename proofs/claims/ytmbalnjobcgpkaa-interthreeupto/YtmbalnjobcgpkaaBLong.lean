
/-
  What the program's idle and long answer, and the library's OnesCount64; conditions: where the table stands.
-/
import Derived.Test.YtmbalnjobcgpkaaBMem
import Derived.Test.YtmbalnjobcgpkaaBState
import Derived.Laws.Bits128
namespace Go.Proofs.Ytmbalnjobcgpkaa.Ol
open Go.Proofs.Ytmbalnjobcgpkaa.Ln

theorem and_split (a y p q : Nat) (ha : a < 256) (hp : p < 256) : (256 * y + a) &&& (256 * q + p) = 256 * (y &&& q) + (a &&& p) := by
  have hap : a &&& p < 256 := Nat.lt_of_le_of_lt Nat.and_le_left ha
  apply Nat.eq_of_testBit_eq
  intro i
  rw [Nat.testBit_and, show (256 : Nat) = 2 ^ 8 from rfl, Nat.testBit_two_pow_mul_add _ ha, Nat.testBit_two_pow_mul_add _ hp, Nat.testBit_two_pow_mul_add _ hap]
  split
  · rw [Nat.testBit_and]
  · rw [Nat.testBit_and]
/-- a mask of n bytes that are alike -/
def msk (p : Nat) : Nat → Nat
  | 0 => 0
  | n + 1 => 256 * msk p n + p
/-- each byte turned by itself -/
def cntB (f : Nat → Nat) : Nat → Nat → Nat
  | 0, _ => 0
  | n + 1, x => 256 * cntB f n (x / 256) + f (x % 256)
def b1 (a : Nat) : Nat := (a / 2 &&& 85) + (a &&& 85)
def b2 (a : Nat) : Nat := (a / 4 &&& 51) + (a &&& 51)
def b3 (a : Nat) : Nat := (a / 16 + a) &&& 15
set_option maxRecDepth 20000 in
theorem b1_lt : ∀ a, a < 256 → b1 a < 256 := by decide
set_option maxRecDepth 20000 in
theorem b2_nib : ∀ a, a < 256 → b2 (b1 a) ≤ 68 ∧ b2 (b1 a) % 16 ≤ 4 := by decide
set_option maxRecDepth 20000 in
theorem low1 : ∀ a, a < 256 → ∀ b, b < 2 → (128 * b + a / 2) &&& 85 = (a / 2 &&& 85) := by decide
set_option maxRecDepth 20000 in
theorem low2 : ∀ a, a < 256 → ∀ b, b < 4 → (64 * b + a / 4) &&& 51 = (a / 4 &&& 51) := by decide
set_option maxRecDepth 20000 in
theorem low3 : ∀ a, a < 69 → ∀ b, b < 5 → (16 * b + a / 16 + a) &&& 15 = b3 a := by decide
set_option maxRecDepth 20000 in
theorem cnt8 : ∀ a, a < 256 → cnb (fun i => a.testBit i) 8 = b3 (b2 (b1 a)) := by decide
theorem pairs (n : Nat) : ∀ x, x < 256 ^ n → (x / 2 &&& msk 85 n) + (x &&& msk 85 n) = cntB b1 n x := by
  induction n with
  | zero => intro x _; simp [msk, cntB]
  | succ n ih =>
    intro x hx
    obtain ⟨y, a, ha, rfl⟩ : ∃ y a, a < 256 ∧ x = 256 * y + a := ⟨x / 256, x % 256, Nat.mod_lt _ (by decide), by omega⟩
    have hy : y < 256 ^ n := by rw [Nat.pow_succ] at hx; omega
    have e1 : (256 * y + a) / 2 = 256 * (y / 2) + (128 * (y % 2) + a / 2) := by omega
    rw [msk, cntB, and_split a y 85 _ ha (by decide), e1, and_split _ _ 85 _ (by omega) (by decide), low1 a ha _ (Nat.mod_lt _ (by decide)), show (256 * y + a) / 256 = y by omega, show (256 * y + a) % 256 = a by omega, ← ih y hy, b1]
    omega
theorem cntB_parts (f : Nat → Nat) (n x : Nat) (hf : f (x % 256) < 256) : cntB f (n + 1) x / 256 = cntB f n (x / 256) ∧ cntB f (n + 1) x % 256 = f (x % 256) := by
  rw [cntB]; omega
theorem cntB_lt (f : Nat → Nat) (hf : ∀ a, a < 256 → f a < 256) (n : Nat) : ∀ x, cntB f n x < 256 ^ n := by
  induction n with
  | zero => intro x; simp [cntB]
  | succ n ih =>
    intro x
    have h1 := ih (x / 256)
    have h2 := hf (x % 256) (Nat.mod_lt _ (by decide))
    rw [cntB, Nat.pow_succ]; omega
theorem fours (n : Nat) : ∀ x, (cntB b1 n x / 4 &&& msk 51 n) + (cntB b1 n x &&& msk 51 n) = cntB (fun a => b2 (b1 a)) n x := by
  induction n with
  | zero => intro x; simp [msk, cntB]
  | succ n ih =>
    intro x
    have hm := Nat.mod_lt x (show 0 < 256 by decide)
    have ha := b1_lt (x % 256) hm
    have h1 := ih (x / 256)
    rw [msk, cntB, cntB]
    generalize cntB b1 n (x / 256) = y at h1 ⊢
    generalize b1 (x % 256) = a at ha ⊢
    have e1 : (256 * y + a) / 4 = 256 * (y / 4) + (64 * (y % 4) + a / 4) := by omega
    rw [and_split a y 51 _ ha (by decide), e1, and_split _ _ 51 _ (by omega) (by decide), low2 a ha _ (Nat.mod_lt _ (by decide)), ← h1, b2]
    omega
theorem eights (n : Nat) : ∀ x, (cntB (fun a => b2 (b1 a)) n x / 16 + cntB (fun a => b2 (b1 a)) n x) &&& msk 15 n = cntB (fun a => b3 (b2 (b1 a))) n x := by
  induction n with
  | zero => intro x; simp [msk, cntB]
  | succ n ih =>
    intro x
    have hm := Nat.mod_lt x (show 0 < 256 by decide)
    have ha := b2_nib (x % 256) hm
    have h1 := ih (x / 256)
    have hy : cntB (fun a => b2 (b1 a)) n (x / 256) % 16 ≤ 4 := by
      cases n with
      | zero => simp [cntB]
      | succ n => rw [cntB]; have := (b2_nib (x / 256 % 256) (Nat.mod_lt _ (by decide))).2; omega
    rw [msk, cntB, cntB]
    generalize cntB (fun a => b2 (b1 a)) n (x / 256) = y at h1 hy ⊢
    generalize b2 (b1 (x % 256)) = a at ha ⊢
    have e1 : (256 * y + a) / 16 + (256 * y + a) = 256 * (y / 16 + y) + (16 * (y % 16) + a / 16 + a) := by omega
    rw [e1, and_split _ _ 15 _ (by omega) (by decide), low3 a (by omega) _ (by omega), h1]
theorem cnt_bytes (n : Nat) : ∀ x, cnb (fun i => x.testBit i) (8 * n) = (List.range n).foldr (fun k s => b3 (b2 (b1 (x / 256 ^ k % 256))) + s) 0 := by
  induction n with
  | zero => intro x; rfl
  | succ n ih =>
    intro x
    rw [show 8 * (n + 1) = 8 + 8 * n by omega, cnb_add, List.range_succ_eq_map, List.foldr_cons, List.foldr_map]
    have e1 : cnb (fun i => x.testBit i) 8 = b3 (b2 (b1 (x / 256 ^ 0 % 256))) := by
      rw [← cnt8 _ (Nat.mod_lt _ (by decide))]
      refine cnb_congr fun i hi => ?_
      rw [Nat.pow_zero, Nat.div_one, show (256 : Nat) = 2 ^ 8 from rfl, Nat.testBit_mod_two_pow]
      simp [hi]
    have e2 : cnb (fun i => x.testBit (8 + i)) (8 * n) = cnb (fun i => (x / 256).testBit i) (8 * n) := by
      refine cnb_congr fun i _ => ?_
      rw [show (256 : Nat) = 2 ^ 8 from rfl, Nat.testBit_div_two_pow, Nat.add_comm]
    rw [e1, e2, ih (x / 256)]
    congr 1
    have : (fun k s => b3 (b2 (b1 (x / 256 / 256 ^ k % 256))) + s) = (fun k s => b3 (b2 (b1 (x / 256 ^ (k + 1) % 256))) + s) := by
      funext k s
      rw [Nat.div_div_eq_div_mul, Nat.pow_succ, Nat.mul_comm 256]
    rw [this]
/-- the sum of the bytes, as the library adds them -/
theorem bytes_sum (x : Nat) (hx : x < 18446744073709551616) : ∃ x1 x2 x3, (x / 2 &&& 6148914691236517205) + (x &&& 6148914691236517205) = x1 ∧ (x1 / 4 &&& 3689348814741910323) + (x1 &&& 3689348814741910323) = x2 ∧ (x2 / 16 + x2) &&& 1085102592571150095 = x3 ∧ x1 < 18446744073709551616 ∧ x2 ≤ 4919131752989213764 ∧ x3 ≤ 578721382704613384 ∧ (x3 + x3 / 256 + (x3 + x3 / 256) / 65536 + (x3 + x3 / 256 + (x3 + x3 / 256) / 65536) / 4294967296) % 128 = cnb (fun i => x.testBit i) 64 := by
  have h1 := pairs 8 x (by simpa using hx)
  have h2 := fours 8 x
  have h3 := eights 8 x
  rw [show msk 85 8 = 6148914691236517205 from rfl] at h1
  rw [show msk 51 8 = 3689348814741910323 from rfl] at h2
  rw [show msk 15 8 = 1085102592571150095 from rfl] at h3
  refine ⟨_, _, _, h1, h2, h3, by have := cntB_lt b1 b1_lt 8 x; simpa using this, ?_, ?_, ?_⟩
  · have hb : ∀ k, b2 (b1 (k % 256)) ≤ 68 := fun k => (b2_nib _ (Nat.mod_lt _ (by decide))).1
    have q0 := hb x
    have q1 := hb (x / 256)
    have q2 := hb (x / 256 / 256)
    have q3 := hb (x / 256 / 256 / 256)
    have q4 := hb (x / 256 / 256 / 256 / 256)
    have q5 := hb (x / 256 / 256 / 256 / 256 / 256)
    have q6 := hb (x / 256 / 256 / 256 / 256 / 256 / 256)
    have q7 := hb (x / 256 / 256 / 256 / 256 / 256 / 256 / 256)
    simp only [cntB]
    omega
  all_goals
    have hb : ∀ k, b3 (b2 (b1 (k % 256))) ≤ 8 := fun k => by rw [← cnt8 _ (Nat.mod_lt _ (by decide))]; exact cnb_le _ _
    have q0 := hb x
    have q1 := hb (x / 256)
    have q2 := hb (x / 256 / 256)
    have q3 := hb (x / 256 / 256 / 256)
    have q4 := hb (x / 256 / 256 / 256 / 256)
    have q5 := hb (x / 256 / 256 / 256 / 256 / 256)
    have q6 := hb (x / 256 / 256 / 256 / 256 / 256 / 256)
    have q7 := hb (x / 256 / 256 / 256 / 256 / 256 / 256 / 256)
  · simp only [cntB]
    omega
  · have hc := cnt_bytes 8 x
    rw [show 8 * 8 = 64 from rfl] at hc
    rw [hc]
    simp only [show List.range 8 = [0, 1, 2, 3, 4, 5, 6, 7] from rfl, List.foldr_cons, List.foldr_nil]
    have d1 : x / 256 ^ 1 = x / 256 := by rw [Nat.pow_one]
    have d2 : x / 256 ^ 2 = x / 256 / 256 := by rw [Nat.div_div_eq_div_mul]
    have d3 : x / 256 ^ 3 = x / 256 / 256 / 256 := by simp only [Nat.div_div_eq_div_mul]
    have d4 : x / 256 ^ 4 = x / 256 / 256 / 256 / 256 := by simp only [Nat.div_div_eq_div_mul]
    have d5 : x / 256 ^ 5 = x / 256 / 256 / 256 / 256 / 256 := by simp only [Nat.div_div_eq_div_mul]
    have d6 : x / 256 ^ 6 = x / 256 / 256 / 256 / 256 / 256 / 256 := by simp only [Nat.div_div_eq_div_mul]
    have d7 : x / 256 ^ 7 = x / 256 / 256 / 256 / 256 / 256 / 256 / 256 := by simp only [Nat.div_div_eq_div_mul]
    rw [Nat.pow_zero, Nat.div_one, d1, d2, d3, d4, d5, d6, d7]
    simp only [cntB]
    generalize b3 (b2 (b1 (x % 256))) = c0 at *
    generalize b3 (b2 (b1 (x / 256 % 256))) = c1 at *
    generalize b3 (b2 (b1 (x / 256 / 256 % 256))) = c2 at *
    generalize b3 (b2 (b1 (x / 256 / 256 / 256 % 256))) = c3 at *
    generalize b3 (b2 (b1 (x / 256 / 256 / 256 / 256 % 256))) = c4 at *
    generalize b3 (b2 (b1 (x / 256 / 256 / 256 / 256 / 256 % 256))) = c5 at *
    generalize b3 (b2 (b1 (x / 256 / 256 / 256 / 256 / 256 / 256 % 256))) = c6 at *
    generalize b3 (b2 (b1 (x / 256 / 256 / 256 / 256 / 256 / 256 / 256 % 256))) = c7 at *
    clear h1 h2 h3 hx hc d1 d2 d3 d4 d5 d6 d7 hb
    obtain ⟨x3, e3⟩ : ∃ x3, 256 * (256 * (256 * (256 * (256 * (256 * (256 * (256 * 0 + c7) + c6) + c5) + c4) + c3) + c2) + c1) + c0 = x3 := ⟨_, rfl⟩
    rw [e3]
    have f3 : x3 / 256 = c1 + 256 * c2 + 65536 * c3 + 16777216 * c4 + 4294967296 * c5 + 1099511627776 * c6 + 281474976710656 * c7 := by omega
    obtain ⟨x4, e4⟩ : ∃ x4, x3 + x3 / 256 = x4 := ⟨_, rfl⟩
    rw [f3] at e4
    rw [f3, e4]
    have g3 : x4 = (c0 + c1) + 256 * (c1 + c2) + 65536 * (c2 + c3) + 16777216 * (c3 + c4) + 4294967296 * (c4 + c5) + 1099511627776 * (c5 + c6) + 281474976710656 * (c6 + c7) + 72057594037927936 * c7 := by omega
    have f4 : x4 / 65536 = (c2 + c3) + 256 * (c3 + c4) + 65536 * (c4 + c5) + 16777216 * (c5 + c6) + 4294967296 * (c6 + c7) + 1099511627776 * c7 := by clear e4 f3 e3; omega
    obtain ⟨x5, e5⟩ : ∃ x5, x4 + x4 / 65536 = x5 := ⟨_, rfl⟩
    rw [f4] at e5
    rw [f4, e5]
    have g4 : x5 = (c0 + c1 + c2 + c3) + 256 * (c1 + c2 + c3 + c4) + 65536 * (c2 + c3 + c4 + c5) + 16777216 * (c3 + c4 + c5 + c6) + 4294967296 * (c4 + c5 + c6 + c7) + 1099511627776 * (c5 + c6 + c7) + 281474976710656 * (c6 + c7) + 72057594037927936 * c7 := by clear f4 f3 e3 e4; omega
    have f5 : x5 / 4294967296 = (c4 + c5 + c6 + c7) + 256 * (c5 + c6 + c7) + 65536 * (c6 + c7) + 16777216 * c7 := by clear e5 f4 g3 e4 f3 e3; omega
    rw [f5]
    clear f5 e5 f4 g3 e4 f3 e3
    omega

end Go.Proofs.Ytmbalnjobcgpkaa.Ol

namespace Go.Proofs.Ytmbalnjobcgpkaa
open Go.RowKit Go.Proofs.Ytmbalnjobcgpkaa.Ln Go.Proofs.Ytmbalnjobcgpkaa.Ol

set_option maxHeartbeats 1000000 in
theorem bcount_any (x : Nat) (hx : x < 18446744073709551616) (w : World) : Calls Try.prog 85 #[.int .u64 x] w fun e w' => e = .returned (.int .i64 (cnb (fun i => x.testBit i) 64)) ∧ w' = w := by
  obtain ⟨x1, x2, x3, h1, h2, h3, l1, l2, l3, h4⟩ := bytes_sum x hx
  obtain ⟨y1, e1⟩ : ∃ y, x / 2 &&& 6148914691236517205 = y := ⟨_, rfl⟩
  obtain ⟨y2, e2⟩ : ∃ y, x &&& 6148914691236517205 = y := ⟨_, rfl⟩
  obtain ⟨z1, f1⟩ : ∃ y, x1 / 4 &&& 3689348814741910323 = y := ⟨_, rfl⟩
  obtain ⟨z2, f2⟩ : ∃ y, x1 &&& 3689348814741910323 = y := ⟨_, rfl⟩
  rw [e1, e2] at h1
  rw [f1, f2] at h2
  have a1 : bits BinOp.and IntKind.u64 ((x : Int) / 2) 6148914691236517205 = (y1 : Int) := by
    have := u64_and_nat (x / 2) 6148914691236517205 (by omega) (by decide)
    rw [e1] at this; exact this
  have a2 : bits BinOp.and IntKind.u64 (x : Int) 6148914691236517205 = (y2 : Int) := by
    have := u64_and_nat x 6148914691236517205 hx (by decide)
    rw [e2] at this; exact this
  have c1 : bits BinOp.and IntKind.u64 ((x1 : Int) / 4) 3689348814741910323 = (z1 : Int) := by
    have := u64_and_nat (x1 / 4) 3689348814741910323 (by omega) (by decide)
    rw [f1] at this; exact this
  have c2 : bits BinOp.and IntKind.u64 (x1 : Int) 3689348814741910323 = (z2 : Int) := by
    have := u64_and_nat x1 3689348814741910323 l1 (by decide)
    rw [f2] at this; exact this
  obtain ⟨m3, hm3⟩ : ∃ m, x2 / 16 + x2 = m := ⟨_, rfl⟩
  rw [hm3] at h3
  have c3 : bits BinOp.and IntKind.u64 (m3 : Int) 1085102592571150095 = (x3 : Int) := by
    have := u64_and_nat m3 1085102592571150095 (by omega) (by decide)
    rw [h3] at this; exact this
  obtain ⟨x4, hx4⟩ : ∃ m, x3 + x3 / 256 = m := ⟨_, rfl⟩
  rw [hx4] at h4
  obtain ⟨x5, hx5⟩ : ∃ m, x4 + x4 / 65536 = m := ⟨_, rfl⟩
  rw [hx5] at h4
  obtain ⟨x6, hx6⟩ : ∃ m, x5 + x5 / 4294967296 = m := ⟨_, rfl⟩
  rw [hx6] at h4
  have s1 : (y1 : Int) + y2 = x1 := by omega
  have s2 : (z1 : Int) + z2 = x2 := by omega
  have s3 : (x2 : Int) / 16 + x2 = m3 := by omega
  have s4 : (x3 : Int) + (x3 : Int) / 256 = x4 := by omega
  have s5 : (x4 : Int) + (x4 : Int) / 65536 = x5 := by omega
  have s6 : (x5 : Int) + (x5 : Int) / 4294967296 = x6 := by omega
  have k1 : (x1 : Int) < 18446744073709551616 := by omega
  have k2 : (x2 : Int) < 18446744073709551616 := by omega
  have k3 : (m3 : Int) < 18446744073709551616 := by omega
  have k4 : (x4 : Int) < 18446744073709551616 := by omega
  have k5 : (x5 : Int) < 18446744073709551616 := by omega
  have k6 : (x6 : Int) < 9223372036854775807 := by omega
  have H4 := hidden h4
  clear h1 h2 h3 h4 e1 e2 f1 f2 l1 l2 l3 hm3 hx4 hx5 hx6 hx
  go_enter Try.func85, Try.ntmps85
  go_wp2_with fail
  go_ret
  refine ⟨ret_int ?_, rfl⟩
  rw [i64_and127, ← H4.out]
  omega

theorem u64_not (x : Nat) (h : x < 18446744073709551616) : bits .xor .u64 IntKind.u64.max (x : Int) = ((18446744073709551615 - x : Nat) : Int) := by
  have e : IntKind.u64.max = ((18446744073709551615 : Nat) : Int) := by decide
  rw [e, u64_xor_nat _ _ (by decide) h]
  congr 1
  apply Nat.eq_of_testBit_eq
  intro i
  have h1 := Nat.testBit_two_pow_sub_succ (n := 64) (x := x) (by simpa using h) i
  rw [show 2 ^ 64 - (x + 1) = 18446744073709551615 - x by omega] at h1
  have h2 := Nat.testBit_two_pow_sub_one 64 i
  rw [show 2 ^ 64 - 1 = 18446744073709551615 by decide] at h2
  rw [Nat.testBit_xor, h1, h2]
  by_cases hi : i < 64
  · simp [hi]
  · have : x.testBit i = false := Nat.testBit_lt_two_pow (Nat.lt_of_lt_of_le (by simpa using h) (Nat.pow_le_pow_right (by decide) (by omega : 64 ≤ i)))
    simp [hi, this]
theorem cnt_word (f : Bs) (k : Nat) : cnb (fun i => (Gl.word f k).testBit i) 64 = cnb (fun i => f (64 * k + i)) 64 := cnb_congr fun i hi => by
  rw [Gl.word_bit]; simp [hi]

set_option maxHeartbeats 1000000 in
theorem blong_any {B T : Nat} {ah wd mo : Int} {v0 v1 : Value} {at_ : Nat} {vI vT vS : Value} {V : Bs} {N : Nat} {L : List Tn} {S : List Sp} {w : World} (h : Tb B T ah wd mo v0 v1 at_ vI vT vS V N L S w) (hN : N ≤ 17179869184) :
    Calls Try.prog 74 #[.pointer (some ⟨T, 0, none⟩)] w fun e w' => e = .returned (.int .i64 (cnb (fun i => !V i) (64 * N))) ∧ w' = w := by
  obtain ⟨aI, cI, rfl, hcI, haI⟩ := own_shape h.ids
  have HT := hidden h
  have t5 := h.c.cells.2.2.2.2.2.1
  clear h
  go_enter Try.func74, Try.ntmps74
  go_wp2_with fail
  go_loopw [3, 11] (fun s i wr => ∃ k : Nat, k ≤ N ∧ i = .int .i64 k ∧ s = .int .i64 (cnb (fun i => !V i) (64 * k)) ∧ wr = w) (fun _ i _ => N - (intOf i).toNat)
  case atStart => exact ⟨0, Nat.zero_le _, rfl, rfl, rfl⟩
  case round =>
    obtain ⟨k, hk, rfl, rfl, hw⟩ := hrel
    subst hw
    have hcl := cnb_le (fun i => !V i) (64 * k)
    by_cases hlt : k < N
    · obtain ⟨g, rfl⟩ : ∃ g, aI = some ⟨g, 0, none⟩ := by
        obtain ⟨g, cp, e, _⟩ := HT.out.ids.form (by omega)
        cases e
        exact ⟨g, rfl⟩
      obtain ⟨x, hx⟩ : ∃ x, Gl.word V k = x := ⟨_, rfl⟩
      have hxl : x < 18446744073709551616 := by rw [← hx]; exact Gl.word_lt V k
      have g0 : wr.cell? ⟨g, k, none⟩ = some (.int .u64 x) := by rw [HT.out.ids.cellAt k (by omega), wcells_at V hlt, hx]
      have hno := u64_not x hxl
      have hno2 : bits BinOp.xor IntKind.u64 (if IntKind.u64.signed = true then -1 else IntKind.u64.max) (x : Int) = ((18446744073709551615 - x : Nat) : Int) := hno
      obtain ⟨y, hy⟩ : ∃ y, 18446744073709551615 - x = y := ⟨_, rfl⟩
      rw [hy] at hno hno2
      have HY := hidden (show Gl.word (fun p => !V p) k = y by rw [← hy, ← hx, Gl.word_not])
      have hyl : y < 18446744073709551616 := by omega
      have HCN := hidden (show cnb (fun i => !V i) (64 * k) + cnb (fun i => y.testBit i) 64 = cnb (fun i => !V i) (64 * (k + 1)) by
        rw [← HY.out, cnt_word, show 64 * (k + 1) = 64 * k + 64 by omega, cnb_add])
      have hcl2 := cnb_le (fun i => y.testBit i) 64
      clear hx hy
      go_wp2_with fail
      refine (bcount_any y hyl _).mono ?_
      rintro e w2 ⟨rfl, hw⟩
      subst w2
      obtain ⟨p1, hp1⟩ : ∃ p, cnb (fun i => !V i) (64 * k) = p := ⟨_, rfl⟩
      obtain ⟨p2, hp2⟩ : ∃ p, cnb (fun i => y.testBit i) 64 = p := ⟨_, rfl⟩
      rw [hp1, hp2] at HCN
      rw [hp1] at hcl ⊢
      rw [hp2] at hcl2 ⊢
      clear hp1 hp2
      go_wp2_with fail
      go_roundw
      case rel => exact ⟨k + 1, by omega, by go_num, by rw [← HCN.out]; go_num, by first | rfl | trivial⟩
      case measure => simp [intOf]; omega
    · obtain rfl : k = N := by omega
      go_wp2_with fail
      go_ret
      exact ⟨rfl, rfl⟩

set_option maxHeartbeats 1000000 in
theorem bidle_any {B T : Nat} {ah wd mo : Int} {v0 v1 : Value} {at_ : Nat} {vI vT vS : Value} {V : Bs} {N : Nat} {L : List Tn} {S : List Sp} {w : World} (h : Tb B T ah wd mo v0 v1 at_ vI vT vS V N L S w) (hN : N ≤ 17179869184) (p : Nat) (hp : p ≤ 17179869184) :
    Calls Try.prog 61 #[.pointer (some ⟨T, 0, none⟩), .int .i64 p] w fun e w' => e = .returned (.bool (V p)) ∧ w' = w := by
  obtain ⟨aI, cI, rfl, hcI, haI⟩ := own_shape h.ids
  have HT := hidden h
  have t5 := h.c.cells.2.2.2.2.2.1
  clear h
  obtain ⟨q, hq⟩ : ∃ q, p / 64 = q := ⟨_, rfl⟩
  have hqI : (p : Int) / 64 = q := by omega
  have hqT : (p : Int).tdiv 64 = q := by rw [Int.tdiv_eq_ediv_of_nonneg (by omega)]; exact hqI
  by_cases hge : N ≤ q
  · have hd : decide ((q : Int) ≥ N) = true := by simp; omega
    have hd2 : decide ((N : Int) ≤ q) = true := by simp; omega
    have HV := hidden (HT.out.top p (by omega))
    go_enter Try.func61, Try.ntmps61
    go_wp2_with fail
    go_ret
    exact ⟨by rw [HV.out]; rfl, rfl⟩
  · have hd : decide ((q : Int) ≥ N) = false := by simp; omega
    have hd2 : decide ((N : Int) ≤ q) = false := by simp; omega
    obtain ⟨g, rfl⟩ : ∃ g, aI = some ⟨g, 0, none⟩ := by
      obtain ⟨g, cp, e, _⟩ := HT.out.ids.form (by omega)
      cases e
      exact ⟨g, rfl⟩
    obtain ⟨x, hx⟩ : ∃ x, Gl.word V q = x := ⟨_, rfl⟩
    have hxl : x < 18446744073709551616 := by rw [← hx]; exact Gl.word_lt V q
    have g0 : w.cell? ⟨g, q, none⟩ = some (.int .u64 x) := by rw [HT.out.ids.cellAt q (by omega), wcells_at V (by omega), hx]
    have HH := hidden (show (x / 2 ^ (p % 64) &&& 1 = 1) = (V p = true) by rw [← hx, ← hq]; exact Gl.word_has V p)
    clear hx
    go_enter Try.func61, Try.ntmps61
    go_wp2_with fail
    go_ret
    refine ⟨ret_bool ?_, rfl⟩
    have e1 : ((x : Int) / 2 ^ (p % 64)) = ((x / 2 ^ (p % 64) : Nat) : Int) := by
      rw [Int.natCast_ediv, Int.natCast_pow]; rfl
    have e2 : x / 2 ^ (p % 64) < 18446744073709551616 := Nat.lt_of_le_of_lt (Nat.div_le_self _ _) hxl
    have e3 := u64_and_nat (x / 2 ^ (p % 64)) 1 e2 (by decide)
    rw [e1, show (1 : Int) = ((1 : Nat) : Int) from rfl, e3]
    have h4 := HH.out
    by_cases h : V p = true
    · rw [h, h4.mpr h]; rfl
    · have h5 : ¬ (x / 2 ^ (p % 64) &&& 1 = 1) := fun e => h (h4.mp e)
      rw [Bool.not_eq_true] at h
      rw [h, beq_eq_false_iff_ne]
      intro e
      exact h5 (by exact_mod_cast e)

end Go.Proofs.Ytmbalnjobcgpkaa
