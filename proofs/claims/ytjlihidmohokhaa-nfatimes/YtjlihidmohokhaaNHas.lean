/-
  What the program's Has, Span, With, Others and Without answer: sets of bytes as four words; no conditions.
-/
import Derived.Test.YtjlihidmohokhaaKBase
namespace Go.Proofs.Ytjlihidmohokhaa
open Go.RowKit Go.Proofs.Ytjlihidmohokhaa.Gl

set_option maxHeartbeats 1000000 in
theorem has_any (f : Bs) (c : UInt8) (w : World) :
    Calls Try.prog 35 #[setV f, .int .u8 c.toNat] w fun e w' => e = .returned (.bool (f c.toNat)) ∧ Below w.heap.size w w' := by
  have hc : c.toNat < 256 := c.toNat_lt
  obtain ⟨n, hn⟩ : ∃ n, n = c.toNat := ⟨_, rfl⟩
  rw [← hn] at hc ⊢
  clear hn
  have hq : n / 64 < 4 := by omega
  have hw := words_at f (n / 64) hq
  have hw2 : ∀ h, [Value.int .u64 (word f 0), Value.int .u64 (word f 1), Value.int .u64 (word f 2), Value.int .u64 (word f 3)][n / 64]'h = .int .u64 (word f (n / 64)) := fun h => (List.getElem?_eq_some_iff.1 hw).2
  have hwl := word_lt f (n / 64)
  have HH := hidden (word_has f n)
  unfold setV
  go_enter Try.func35, Try.ntmps35
  go_wp2
  go_ret
  refine ⟨ret_bool ?_, (Below.refl _ w).alloc (Nat.le_refl _) _⟩
  have e1 : ((word f (n / 64) : Int) / 2 ^ (n % 64)) = ((word f (n / 64) / 2 ^ (n % 64) : Nat) : Int) := by
    rw [Int.natCast_ediv, Int.natCast_pow]; rfl
  have e2 : word f (n / 64) / 2 ^ (n % 64) < 18446744073709551616 := Nat.lt_of_le_of_lt (Nat.div_le_self _ _) hwl
  have e3 := u64_and_nat (word f (n / 64) / 2 ^ (n % 64)) 1 e2 (by decide)
  rw [e1, show (1 : Int) = ((1 : Nat) : Int) from rfl, e3]
  have h4 := HH.out
  by_cases h : f n = true
  · rw [h, h4.mpr h]; rfl
  · have h5 : ¬ (word f (n / 64) / 2 ^ (n % 64) &&& 1 = 1) := fun e => h (h4.mp e)
    rw [Bool.not_eq_true] at h
    rw [h, beq_eq_false_iff_ne]
    intro e
    exact h5 (by exact_mod_cast e)

end Go.Proofs.Ytjlihidmohokhaa
