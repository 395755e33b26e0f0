
/-
  How many bits of a word are set, as the library reckons it: by pairs, nibbles and bytes; no conditions but those that each states.
-/
import Derived.Test.YtdjdiaadflggfaaBPlain
namespace Go.Proofs.Ytdjdiaadflggfaa.Ol
open Go.Proofs.Ytdjdiaadflggfaa.Ln

theorem and_split (a y p q : Nat) (ha : a < 256) (hp : p < 256) : (256 * y + a) &&& (256 * q + p) = 256 * (y &&& q) + (a &&& p) := by
  have hap : a &&& p < 256 := Nat.lt_of_le_of_lt Nat.and_le_left ha
  apply Nat.eq_of_testBit_eq
  intro i
  rw [Nat.testBit_and, show (256 : Nat) = 2 ^ 8 from rfl, Nat.testBit_two_pow_mul_add _ ha, Nat.testBit_two_pow_mul_add _ hp, Nat.testBit_two_pow_mul_add _ hap]
  split
  · rw [Nat.testBit_and]
  · rw [Nat.testBit_and]
/-- a mask of n bytes that are alike -/
def msk (p : Nat) : Nat → Nat
  | 0 => 0
  | n + 1 => 256 * msk p n + p
/-- each byte turned by itself -/
def byB (f : Nat → Nat) : Nat → Nat → Nat
  | 0, _ => 0
  | n + 1, x => 256 * byB f n (x / 256) + f (x % 256)
def b1 (a : Nat) : Nat := (a / 2 &&& 85) + (a &&& 85)
def b2 (a : Nat) : Nat := (a / 4 &&& 51) + (a &&& 51)
def b3 (a : Nat) : Nat := (a / 16 + a) &&& 15
set_option maxRecDepth 20000 in
theorem b1_lt : ∀ a, a < 256 → b1 a < 256 := by decide
set_option maxRecDepth 20000 in
theorem b2_nib : ∀ a, a < 256 → b2 (b1 a) ≤ 68 ∧ b2 (b1 a) % 16 ≤ 4 := by decide
set_option maxRecDepth 20000 in
theorem low1 : ∀ a, a < 256 → ∀ b, b < 2 → (128 * b + a / 2) &&& 85 = (a / 2 &&& 85) := by decide
set_option maxRecDepth 20000 in
theorem low2 : ∀ a, a < 256 → ∀ b, b < 4 → (64 * b + a / 4) &&& 51 = (a / 4 &&& 51) := by decide
set_option maxRecDepth 20000 in
theorem low3 : ∀ a, a < 69 → ∀ b, b < 5 → (16 * b + a / 16 + a) &&& 15 = b3 a := by decide
set_option maxRecDepth 20000 in
theorem cnt8 : ∀ a, a < 256 → cnb (fun i => a.testBit i) 8 = b3 (b2 (b1 a)) := by decide
theorem pairs (n : Nat) : ∀ x, x < 256 ^ n → (x / 2 &&& msk 85 n) + (x &&& msk 85 n) = byB b1 n x := by
  induction n with
  | zero => intro x _; simp [msk, byB]
  | succ n ih =>
    intro x hx
    obtain ⟨y, a, ha, rfl⟩ : ∃ y a, a < 256 ∧ x = 256 * y + a := ⟨x / 256, x % 256, Nat.mod_lt _ (by decide), by omega⟩
    have hy : y < 256 ^ n := by rw [Nat.pow_succ] at hx; omega
    have e1 : (256 * y + a) / 2 = 256 * (y / 2) + (128 * (y % 2) + a / 2) := by omega
    rw [msk, byB, and_split a y 85 _ ha (by decide), e1, and_split _ _ 85 _ (by omega) (by decide), low1 a ha _ (Nat.mod_lt _ (by decide)), show (256 * y + a) / 256 = y by omega, show (256 * y + a) % 256 = a by omega, ← ih y hy, b1]
    omega
theorem byB_parts (f : Nat → Nat) (n x : Nat) (hf : f (x % 256) < 256) : byB f (n + 1) x / 256 = byB f n (x / 256) ∧ byB f (n + 1) x % 256 = f (x % 256) := by
  rw [byB]; omega
theorem byB_lt (f : Nat → Nat) (hf : ∀ a, a < 256 → f a < 256) (n : Nat) : ∀ x, byB f n x < 256 ^ n := by
  induction n with
  | zero => intro x; simp [byB]
  | succ n ih =>
    intro x
    have h1 := ih (x / 256)
    have h2 := hf (x % 256) (Nat.mod_lt _ (by decide))
    rw [byB, Nat.pow_succ]; omega
theorem fours (n : Nat) : ∀ x, (byB b1 n x / 4 &&& msk 51 n) + (byB b1 n x &&& msk 51 n) = byB (fun a => b2 (b1 a)) n x := by
  induction n with
  | zero => intro x; simp [msk, byB]
  | succ n ih =>
    intro x
    have hm := Nat.mod_lt x (show 0 < 256 by decide)
    have ha := b1_lt (x % 256) hm
    have h1 := ih (x / 256)
    rw [msk, byB, byB]
    generalize byB b1 n (x / 256) = y at h1 ⊢
    generalize b1 (x % 256) = a at ha ⊢
    have e1 : (256 * y + a) / 4 = 256 * (y / 4) + (64 * (y % 4) + a / 4) := by omega
    rw [and_split a y 51 _ ha (by decide), e1, and_split _ _ 51 _ (by omega) (by decide), low2 a ha _ (Nat.mod_lt _ (by decide)), ← h1, b2]
    omega
theorem eights (n : Nat) : ∀ x, (byB (fun a => b2 (b1 a)) n x / 16 + byB (fun a => b2 (b1 a)) n x) &&& msk 15 n = byB (fun a => b3 (b2 (b1 a))) n x := by
  induction n with
  | zero => intro x; simp [msk, byB]
  | succ n ih =>
    intro x
    have hm := Nat.mod_lt x (show 0 < 256 by decide)
    have ha := b2_nib (x % 256) hm
    have h1 := ih (x / 256)
    have hy : byB (fun a => b2 (b1 a)) n (x / 256) % 16 ≤ 4 := by
      cases n with
      | zero => simp [byB]
      | succ n => rw [byB]; have := (b2_nib (x / 256 % 256) (Nat.mod_lt _ (by decide))).2; omega
    rw [msk, byB, byB]
    generalize byB (fun a => b2 (b1 a)) n (x / 256) = y at h1 hy ⊢
    generalize b2 (b1 (x % 256)) = a at ha ⊢
    have e1 : (256 * y + a) / 16 + (256 * y + a) = 256 * (y / 16 + y) + (16 * (y % 16) + a / 16 + a) := by omega
    rw [e1, and_split _ _ 15 _ (by omega) (by decide), low3 a (by omega) _ (by omega), h1]
theorem cnt_bytes (n : Nat) : ∀ x, cnb (fun i => x.testBit i) (8 * n) = (List.range n).foldr (fun k s => b3 (b2 (b1 (x / 256 ^ k % 256))) + s) 0 := by
  induction n with
  | zero => intro x; rfl
  | succ n ih =>
    intro x
    rw [show 8 * (n + 1) = 8 + 8 * n by omega, cnb_add, List.range_succ_eq_map, List.foldr_cons, List.foldr_map]
    have e1 : cnb (fun i => x.testBit i) 8 = b3 (b2 (b1 (x / 256 ^ 0 % 256))) := by
      rw [← cnt8 _ (Nat.mod_lt _ (by decide))]
      refine cnb_congr fun i hi => ?_
      rw [Nat.pow_zero, Nat.div_one, show (256 : Nat) = 2 ^ 8 from rfl, Nat.testBit_mod_two_pow]
      simp [hi]
    have e2 : cnb (fun i => x.testBit (8 + i)) (8 * n) = cnb (fun i => (x / 256).testBit i) (8 * n) := by
      refine cnb_congr fun i _ => ?_
      rw [show (256 : Nat) = 2 ^ 8 from rfl, Nat.testBit_div_two_pow, Nat.add_comm]
    rw [e1, e2, ih (x / 256)]
    congr 1
    have : (fun k s => b3 (b2 (b1 (x / 256 / 256 ^ k % 256))) + s) = (fun k s => b3 (b2 (b1 (x / 256 ^ (k + 1) % 256))) + s) := by
      funext k s
      rw [Nat.div_div_eq_div_mul, Nat.pow_succ, Nat.mul_comm 256]
    rw [this]
/-- the sum of the bytes, as the library adds them -/
theorem bytes_sum (x : Nat) (hx : x < 18446744073709551616) : ∃ x1 x2 x3, (x / 2 &&& 6148914691236517205) + (x &&& 6148914691236517205) = x1 ∧ (x1 / 4 &&& 3689348814741910323) + (x1 &&& 3689348814741910323) = x2 ∧ (x2 / 16 + x2) &&& 1085102592571150095 = x3 ∧ x1 < 18446744073709551616 ∧ x2 ≤ 4919131752989213764 ∧ x3 ≤ 578721382704613384 ∧ (x3 + x3 / 256 + (x3 + x3 / 256) / 65536 + (x3 + x3 / 256 + (x3 + x3 / 256) / 65536) / 4294967296) % 128 = cnb (fun i => x.testBit i) 64 := by
  have h1 := pairs 8 x (by simpa using hx)
  have h2 := fours 8 x
  have h3 := eights 8 x
  rw [show msk 85 8 = 6148914691236517205 from rfl] at h1
  rw [show msk 51 8 = 3689348814741910323 from rfl] at h2
  rw [show msk 15 8 = 1085102592571150095 from rfl] at h3
  refine ⟨_, _, _, h1, h2, h3, by have := byB_lt b1 b1_lt 8 x; simpa using this, ?_, ?_, ?_⟩
  · have hb : ∀ k, b2 (b1 (k % 256)) ≤ 68 := fun k => (b2_nib _ (Nat.mod_lt _ (by decide))).1
    have q0 := hb x
    have q1 := hb (x / 256)
    have q2 := hb (x / 256 / 256)
    have q3 := hb (x / 256 / 256 / 256)
    have q4 := hb (x / 256 / 256 / 256 / 256)
    have q5 := hb (x / 256 / 256 / 256 / 256 / 256)
    have q6 := hb (x / 256 / 256 / 256 / 256 / 256 / 256)
    have q7 := hb (x / 256 / 256 / 256 / 256 / 256 / 256 / 256)
    simp only [byB]
    omega
  all_goals
    have hb : ∀ k, b3 (b2 (b1 (k % 256))) ≤ 8 := fun k => by rw [← cnt8 _ (Nat.mod_lt _ (by decide))]; exact cnb_le _ _
    have q0 := hb x
    have q1 := hb (x / 256)
    have q2 := hb (x / 256 / 256)
    have q3 := hb (x / 256 / 256 / 256)
    have q4 := hb (x / 256 / 256 / 256 / 256)
    have q5 := hb (x / 256 / 256 / 256 / 256 / 256)
    have q6 := hb (x / 256 / 256 / 256 / 256 / 256 / 256)
    have q7 := hb (x / 256 / 256 / 256 / 256 / 256 / 256 / 256)
  · simp only [byB]
    omega
  · have hc := cnt_bytes 8 x
    rw [show 8 * 8 = 64 from rfl] at hc
    rw [hc]
    simp only [show List.range 8 = [0, 1, 2, 3, 4, 5, 6, 7] from rfl, List.foldr_cons, List.foldr_nil]
    have d1 : x / 256 ^ 1 = x / 256 := by rw [Nat.pow_one]
    have d2 : x / 256 ^ 2 = x / 256 / 256 := by rw [Nat.div_div_eq_div_mul]
    have d3 : x / 256 ^ 3 = x / 256 / 256 / 256 := by simp only [Nat.div_div_eq_div_mul]
    have d4 : x / 256 ^ 4 = x / 256 / 256 / 256 / 256 := by simp only [Nat.div_div_eq_div_mul]
    have d5 : x / 256 ^ 5 = x / 256 / 256 / 256 / 256 / 256 := by simp only [Nat.div_div_eq_div_mul]
    have d6 : x / 256 ^ 6 = x / 256 / 256 / 256 / 256 / 256 / 256 := by simp only [Nat.div_div_eq_div_mul]
    have d7 : x / 256 ^ 7 = x / 256 / 256 / 256 / 256 / 256 / 256 / 256 := by simp only [Nat.div_div_eq_div_mul]
    rw [Nat.pow_zero, Nat.div_one, d1, d2, d3, d4, d5, d6, d7]
    simp only [byB]
    generalize b3 (b2 (b1 (x % 256))) = c0 at *
    generalize b3 (b2 (b1 (x / 256 % 256))) = c1 at *
    generalize b3 (b2 (b1 (x / 256 / 256 % 256))) = c2 at *
    generalize b3 (b2 (b1 (x / 256 / 256 / 256 % 256))) = c3 at *
    generalize b3 (b2 (b1 (x / 256 / 256 / 256 / 256 % 256))) = c4 at *
    generalize b3 (b2 (b1 (x / 256 / 256 / 256 / 256 / 256 % 256))) = c5 at *
    generalize b3 (b2 (b1 (x / 256 / 256 / 256 / 256 / 256 / 256 % 256))) = c6 at *
    generalize b3 (b2 (b1 (x / 256 / 256 / 256 / 256 / 256 / 256 / 256 % 256))) = c7 at *
    clear h1 h2 h3 hx hc d1 d2 d3 d4 d5 d6 d7 hb
    obtain ⟨x3, e3⟩ : ∃ x3, 256 * (256 * (256 * (256 * (256 * (256 * (256 * (256 * 0 + c7) + c6) + c5) + c4) + c3) + c2) + c1) + c0 = x3 := ⟨_, rfl⟩
    rw [e3]
    have f3 : x3 / 256 = c1 + 256 * c2 + 65536 * c3 + 16777216 * c4 + 4294967296 * c5 + 1099511627776 * c6 + 281474976710656 * c7 := by omega
    obtain ⟨x4, e4⟩ : ∃ x4, x3 + x3 / 256 = x4 := ⟨_, rfl⟩
    rw [f3] at e4
    rw [f3, e4]
    have g3 : x4 = (c0 + c1) + 256 * (c1 + c2) + 65536 * (c2 + c3) + 16777216 * (c3 + c4) + 4294967296 * (c4 + c5) + 1099511627776 * (c5 + c6) + 281474976710656 * (c6 + c7) + 72057594037927936 * c7 := by omega
    have f4 : x4 / 65536 = (c2 + c3) + 256 * (c3 + c4) + 65536 * (c4 + c5) + 16777216 * (c5 + c6) + 4294967296 * (c6 + c7) + 1099511627776 * c7 := by clear e4 f3 e3; omega
    obtain ⟨x5, e5⟩ : ∃ x5, x4 + x4 / 65536 = x5 := ⟨_, rfl⟩
    rw [f4] at e5
    rw [f4, e5]
    have g4 : x5 = (c0 + c1 + c2 + c3) + 256 * (c1 + c2 + c3 + c4) + 65536 * (c2 + c3 + c4 + c5) + 16777216 * (c3 + c4 + c5 + c6) + 4294967296 * (c4 + c5 + c6 + c7) + 1099511627776 * (c5 + c6 + c7) + 281474976710656 * (c6 + c7) + 72057594037927936 * c7 := by clear f4 f3 e3 e4; omega
    have f5 : x5 / 4294967296 = (c4 + c5 + c6 + c7) + 256 * (c5 + c6 + c7) + 65536 * (c6 + c7) + 16777216 * c7 := by clear e5 f4 g3 e4 f3 e3; omega
    rw [f5]
    clear f5 e5 f4 g3 e4 f3 e3
    omega

end Go.Proofs.Ytdjdiaadflggfaa.Ol
