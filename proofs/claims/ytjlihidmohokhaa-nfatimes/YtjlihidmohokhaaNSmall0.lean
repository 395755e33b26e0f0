/-
  What the document's reader of expressions answers, told shorter; no conditions.
-/
import Derived.Test.YtjlihidmohokhaaNAlive
namespace Go.Proofs.Ytjlihidmohokhaa
open Go.RowKit Go.Proofs.Ytjlihidmohokhaa.Gl

theorem zeroV_at (w : World) (A : Nat → Prop) : NodeAt w A zeroV (plainN 0) := by
  have h := (KidsAt.nil w A).shut 0 none_ 0 0
  unfold nodeV at h
  rw [show word none_ 0 = 0 from word_none 0, show word none_ 1 = 0 from word_none 1, show word none_ 2 = 0 from word_none 2, show word none_ 3 = 0 from word_none 3] at h
  exact h
theorem cnt_plain (k : Int) : cntN (plainN k) = 1 := by unfold plainN; rw [cntN, cnts]
theorem EAns.out {w w' : World} {e : Ending} {r : Rs Nd} (h : EAns w w' e r) : ∃ v x, ∃ a c : Int, e = .returned (.tuple #[v, .int .i64 a, .int .i64 c]) ∧ NodeAt w' (w.heap.size ≤ ·) v x ∧ cntN x ≤ 2001 ∧ (c ≠ 0 ∨ c = 0 ∧ ∃ m, r = .ok x m) := by
  cases r with
  | ok x m =>
    obtain ⟨v, he, hn, hc⟩ := h
    exact ⟨v, x, _, _, he, hn, hc, Or.inr ⟨rfl, m, rfl⟩⟩
  | er m c =>
    obtain ⟨a, c, he, hc⟩ := h
    exact ⟨zeroV, plainN 0, a, c, he, zeroV_at _ _, by rw [cnt_plain]; omega, Or.inl hc⟩

end Go.Proofs.Ytjlihidmohokhaa
