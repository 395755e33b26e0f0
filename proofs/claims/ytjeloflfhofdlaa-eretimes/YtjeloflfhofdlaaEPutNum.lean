/-
  What the document's own PutNum answers at a number up to 220: its digits; condition: the number.
-/
import Derived.Test.YtjeloflfhofdlaaEAlive
import Derived.Test.YtjeloflfhofdlaaETimesPlain
namespace Go.Proofs.Ytjeloflfhofdlaa
open Go.RowKit Go.Proofs.Ytjeloflfhofdlaa.Gl

theorem digit_text (k : Nat) (h : k < 10) : (⟨#[48, 49, 50, 51, 52, 53, 54, 55, 56, 57]⟩ : ByteArray).extract k (k + 1) = ⟨#[UInt8.ofNat (48 + k)]⟩ := by
  match k, h with
  | 0, _ => rfl
  | 1, _ => rfl
  | 2, _ => rfl
  | 3, _ => rfl
  | 4, _ => rfl
  | 5, _ => rfl
  | 6, _ => rfl
  | 7, _ => rfl
  | 8, _ => rfl
  | 9, _ => rfl
theorem app_text (a b : Tx) : (⟨a.toArray⟩ : ByteArray) ++ (⟨b.toArray⟩ : ByteArray) = ⟨(a ++ b).toArray⟩ := by
  apply ByteArray.ext
  simp
theorem ret_text {a b : ByteArray} (h : a = b) : Ending.returned (.string a) = .returned (.string b) := by rw [h]
theorem dec3_small {n : Nat} (h : n < 10) : dec3 n = [UInt8.ofNat (48 + n)] := by unfold dec3; rw [if_pos h]
theorem dec3_big {n : Nat} (h : ¬ n < 10) (h2 : n ≤ 999) : dec3 n = dec3 (n / 10) ++ [UInt8.ofNat (48 + n % 10)] := by
  unfold dec3
  rw [if_neg h]
  by_cases h3 : n < 100
  · rw [if_pos h3, if_pos (by omega)]; rfl
  · rw [if_neg h3, if_neg (by omega), if_pos (by omega), show n / 10 / 10 = n / 100 by omega]; rfl

set_option maxHeartbeats 1000000 in
theorem putNum_any (u : Nat) (w : World) : u ≤ 220 → Calls Try.prog 15 #[.int .i64 u] w fun e w' => e = .returned (S (dec3 u)) ∧ w' = w := by
  induction u using Nat.strongRecOn with
  | _ u ih =>
    intro hu
    unfold S at ih ⊢
    by_cases h10 : u < 10
    · go_enter Try.func15, Try.ntmps15
      go_wp2
      go_ret
      exact ⟨ret_text (by rw [digit_text _ (by omega), dec3_small h10, Nat.mod_eq_of_lt h10]), rfl⟩
    · have ih' := hidden (ih (u / 10) (by omega) (by omega))
      clear ih
      have hlen := (dec3_is (n := u / 10) (by omega)).2.2.1
      go_enter Try.func15, Try.ntmps15
      go_wp2_with fail
      refine ih'.out.mono ?_
      rintro e w1 ⟨rfl, rfl⟩
      go_wp2
      go_ret
      exact ⟨ret_text (by rw [digit_text _ (by omega), app_text, ← dec3_big h10 (by omega)]), rfl⟩

end Go.Proofs.Ytjeloflfhofdlaa
