
/-
  What the document's own PutNum answers at any number from 0 up to 2^40: its digits; condition: the number. Lines made of numbers.
-/
import Derived.Test.YtbbbphlojefgjaaOBase
import Derived.Test.YtbbbphlojefgjaaWPlain
namespace Go.Proofs.Ytbbbphlojefgjaa
namespace Ol
open Go.Proofs.Ytbbbphlojefgjaa.Ln
def decF : Nat → Nat → Tx
  | 0, _ => []
  | f + 1, n => if n < 10 then [UInt8.ofNat (48 + n)] else decF f (n / 10) ++ [UInt8.ofNat (48 + n % 10)]
/-- the digits of a number -/
def dec (n : Nat) : Tx := decF (n + 1) n
theorem decF_any (f : Nat) : ∀ g n, n < f → n < g → decF f n = decF g n := by
  induction f with
  | zero => intro g n h; omega
  | succ f ih =>
    intro g n h1 h2
    obtain ⟨g', rfl⟩ : ∃ g', g = g' + 1 := ⟨g - 1, by omega⟩
    simp only [decF]
    by_cases h : n < 10
    · rw [if_pos h, if_pos h]
    · rw [if_neg h, if_neg h, ih g' (n / 10) (by omega) (by omega)]
theorem dec_small {n : Nat} (h : n < 10) : dec n = [UInt8.ofNat (48 + n)] := by unfold dec decF; rw [if_pos h]
theorem dec_big {n : Nat} (h : ¬ n < 10) : dec n = dec (n / 10) ++ [UInt8.ofNat (48 + n % 10)] := by
  have : decF n (n / 10) = decF (n / 10 + 1) (n / 10) := decF_any _ _ _ (by omega) (by omega)
  unfold dec
  rw [decF, if_neg h, this]
theorem dec_facts (n : Nat) : dec n ≠ [] ∧ (dec n).length ≤ n + 1 ∧ ∀ c ∈ dec n, c ≠ 10 := by
  induction n using Nat.strongRecOn with
  | _ n ih =>
    have hd : ∀ k, k < 10 → UInt8.ofNat (48 + k) ≠ 10 := fun k hk => by
      match k, hk with
      | 0, _ => decide
      | 1, _ => decide
      | 2, _ => decide
      | 3, _ => decide
      | 4, _ => decide
      | 5, _ => decide
      | 6, _ => decide
      | 7, _ => decide
      | 8, _ => decide
      | 9, _ => decide
    by_cases h : n < 10
    · rw [dec_small h]
      exact ⟨by simp, by simp, fun c hc => by rw [List.mem_singleton] at hc; rw [hc]; exact hd n h⟩
    · obtain ⟨h1, h2, h3⟩ := ih (n / 10) (by omega)
      rw [dec_big h]
      refine ⟨by simp, by rw [List.length_append]; simp; omega, fun c hc => ?_⟩
      rcases List.mem_append.1 hc with hc | hc
      · exact h3 c hc
      · rw [List.mem_singleton] at hc; rw [hc]; exact hd _ (by omega)
/-- the line of a number -/
def qn (n : Nat) : Tx := 63 :: dec n ++ [10]
theorem qn_line (n : Nat) : rt (qn n) = true ∧ cl (qn n) = true := by
  obtain ⟨_, _, h⟩ := dec_facts n
  refine ⟨?_, by unfold cl qn; rw [show ((63 : UInt8) :: dec n ++ [10]) = ((63 : UInt8) :: dec n) ++ [10] from rfl, List.getLast?_concat]; rfl⟩
  rw [rt_iff]
  refine ⟨by simp [qn], ?_⟩
  rw [fe_full]
  intro i hi e
  have hm : (qn n)[i]? = (63 :: dec n)[i]? := by
    unfold qn
    rw [List.getElem?_append_left]
    simp [qn] at hi ⊢
    omega
  rw [hm] at e
  have := List.mem_of_getElem? e
  rcases List.mem_cons.1 this with h2 | h2
  · cases h2
  · exact h 10 h2 rfl
theorem qn_len (n : Nat) : (qn n).length ≤ n + 3 := by
  have := (dec_facts n).2.1
  simp [qn]; omega
theorem qn_head (n : Nat) : (qn n)[0]? = some 63 := rfl
end Ol
open Go.RowKit Go.Proofs.Ytbbbphlojefgjaa.Ln Go.Proofs.Ytbbbphlojefgjaa.Ol

theorem digitW (k : Nat) (h : k < 10) : (⟨#[48, 49, 50, 51, 52, 53, 54, 55, 56, 57]⟩ : ByteArray).extract k (k + 1) = ⟨#[UInt8.ofNat (48 + k)]⟩ := by
  match k, h with
  | 0, _ => rfl
  | 1, _ => rfl
  | 2, _ => rfl
  | 3, _ => rfl
  | 4, _ => rfl
  | 5, _ => rfl
  | 6, _ => rfl
  | 7, _ => rfl
  | 8, _ => rfl
  | 9, _ => rfl
theorem appW (a b : Tx) : (⟨a.toArray⟩ : ByteArray) ++ (⟨b.toArray⟩ : ByteArray) = ⟨(a ++ b).toArray⟩ := by
  apply ByteArray.ext
  simp
theorem ret_textW {a b : ByteArray} (h : a = b) : Ending.returned (.string a) = .returned (.string b) := by rw [h]

set_option maxHeartbeats 1000000 in
theorem putNumW_any (u : Nat) (w : World) : u ≤ 1048576 → Calls Try.prog 37 #[.int .i64 u] w fun e w' => e = .returned (.string ⟨(dec u).toArray⟩) ∧ w' = w := by
  induction u using Nat.strongRecOn with
  | _ u ih =>
    intro hu
    by_cases h10 : u < 10
    · go_enter Try.func37, Try.ntmps37
      go_wp2
      go_ret
      exact ⟨ret_textW (by rw [digitW _ (by omega), dec_small h10, Nat.mod_eq_of_lt h10]), rfl⟩
    · have ih' := hidden (ih (u / 10) (by omega) (by omega))
      clear ih
      have hlen : (dec (u / 10)).length ≤ 1048577 := by have := (dec_facts (u / 10)).2.1; omega
      go_enter Try.func37, Try.ntmps37
      go_wp2_with fail
      refine ih'.out.mono ?_
      rintro e w1 ⟨rfl, rfl⟩
      go_wp2
      go_ret
      exact ⟨ret_textW (by rw [digitW _ (by omega), appW, ← dec_big h10]), rfl⟩

end Go.Proofs.Ytbbbphlojefgjaa
