
/-
  Lists of steps and of texts in memory, whatever they are: one shape for the empty and the others; no condition.
-/
import Derived.Test.YtcdjemheokmglabORow
namespace Go.Proofs.Ytcdjemheokmglab
open Go.RowKit Go.Proofs.Ytcdjemheokmglab.Ln Go.Proofs.Ytcdjemheokmglab.Ol

/-- steps that were handed in, whatever they are -/
theorem OpsAt.open_ {w : World} {v : Value} {xs : List Oq} (h : OpsAt w v xs) : ∃ ao cap, v = .slice ao xs.length cap ∧ ∀ (j : Nat) x, xs[j]? = some x → ∃ b o, ao = some ⟨b, o, none⟩ ∧ xs.length ≤ cap ∧ b < w.heap.size ∧ (w.cell? ⟨b, o + j * 3, none⟩ = some (Z x.1) ∧ w.cell? ⟨b, o + j * 3 + 1, none⟩ = some (Z x.2.1) ∧ w.cell? ⟨b, o + j * 3 + 2, none⟩ = some (S x.2.2)) := by
  rcases h with ⟨rfl, ao, cap, rfl, _⟩ | ⟨b, o, cap, rfl, h1, h2, h3⟩
  · exact ⟨ao, cap, rfl, fun j x hx => by simp at hx⟩
  · exact ⟨_, cap, rfl, fun j x hx => ⟨b, o, rfl, h1, h2, h3 j x hx⟩⟩
/-- lines that were handed in, whatever they are -/
theorem RowAt.open_ {w : World} {v : Value} {xs : List Tx} (h : RowAt w v xs) : ∃ ao cap, v = .slice ao xs.length cap ∧ ∀ (j : Nat) x, xs[j]? = some x → ∃ b o, ao = some ⟨b, o, none⟩ ∧ xs.length ≤ cap ∧ b < w.heap.size ∧ w.cell? ⟨b, o + j, none⟩ = some (.string ⟨x.toArray⟩) := by
  rcases h with ⟨rfl, ao, cap, rfl, _⟩ | ⟨b, o, cap, rfl, h1, h2, h3⟩
  · exact ⟨ao, cap, rfl, fun j x hx => by simp at hx⟩
  · exact ⟨_, cap, rfl, fun j x hx => ⟨b, o, rfl, h1, h2, h3 j x hx⟩⟩
theorem ret_two {a b c d : Value} (h1 : a = c) (h2 : b = d) : Ending.returned (.tuple #[a, b]) = .returned (.tuple #[c, d]) := by rw [h1, h2]
theorem val_int {a b : Int} (h : a = b) : Value.int .i64 a = .int .i64 b := by rw [h]
theorem val_bool {a b : Bool} (h : a = b) : Value.bool a = .bool b := by rw [h]
theorem beq_tx (t x : Tx) : (t == x) = decide (t = x) := by rw [Bool.eq_iff_iff]; simp

theorem three_at {w W : World} {x1 x2 : Int} {x3 : Tx} (hb : Below (w.heap.size + 1) (w.alloc (opO x1 x2 x3)) W) : W.cell? ⟨w.heap.size, 0, none⟩ = some (.int .i64 x1) ∧ W.cell? ⟨w.heap.size, 1, none⟩ = some (.int .i64 x2) ∧ W.cell? ⟨w.heap.size, 2, none⟩ = some (.string ⟨x3.toArray⟩) :=
  ⟨(hb.cell (p := ⟨w.heap.size, 0, none⟩) (by simp)).trans (by simp), (hb.cell (p := ⟨w.heap.size, 1, none⟩) (by simp)).trans (by simp), (hb.cell (p := ⟨w.heap.size, 2, none⟩) (by simp)).trans (by simp)⟩

end Go.Proofs.Ytcdjemheokmglab
